/- QuotaPrunes answers true, of any items, any quota. No condition. -/
import Derived.Test.YtpabblkdepefcaaQK
import Derived.Laws.StructEq
namespace Go.Proofs.Ytpabblkdepefcaa
open Go.RowKit Go.Shelf
set_option maxRecDepth 100000 in
set_option maxHeartbeats 4000000 in
theorem rsame_any (va vb : Value) (I J : List Nat) (w : World) (ha : Ids w va I) (hb : Ids w vb J) : Calls Try.prog 12 #[va, vb] w fun e w' => e = .returned (.bool (decide (I = J))) ∧ Frm (fun _ => False) w w' := by
  have HA := Lib.hid ha
  have HB := Lib.hid hb
  obtain ⟨aa, ca, rfl, hca1, hca2⟩ := ha.slice
  obtain ⟨ab, cb, rfl, hcb1, hcb2⟩ := hb.slice
  unfold maxLen at hca2 hcb2
  clear ha hb
  go_enter Try.func12, Try.ntmps12
  by_cases hl : I.length = J.length
  · have hlz : ((I.length : Int) != (J.length : Int)) = false := by simp; omega
    have hlz2 : ((I.length : Int) == (J.length : Int)) = true := by simp; omega
    have HLL := Lib.hid hl
    clear hl
    go_wp2_with fail
    go_loopw [5] (fun i wr => ∃ k : Nat, k ≤ I.length ∧ i = .int .i64 k ∧ Frm (fun _ => False) w wr ∧ Hid (I.take k = J.take k)) (fun i _ => I.length - (intOf i).toNat)
    case atStart => exact ⟨0, Nat.zero_le _, rfl, Frm.refl _ _, by rw [List.take_zero, List.take_zero]; rfl⟩
    case round =>
      obtain ⟨k, hk, rfl, g2, HT⟩ := hrel
      by_cases hlt : k < I.length
      · have hki : (k : Int) < (I.length : Int) := by omega
        have hk0 : (0 : Int) ≤ (k : Int) := by omega
        have hkJ : k < J.length := by rw [← HLL.out]; exact hlt
        have hkJz : (k : Int) < (J.length : Int) := by omega
        obtain ⟨g, off, rfl, hg, e0⟩ := (HA.out.keepF g2).at k hlt
        obtain ⟨g', off', rfl, hg', e1⟩ := (HB.out.keepF g2).at k hkJ
        have t1 : I.take (k + 1) = I.take k ++ [I[k]] := List.take_succ_eq_append_getElem hlt
        have t2 : J.take (k + 1) = J.take k ++ [J[k]] := List.take_succ_eq_append_getElem hkJ
        obtain ⟨x, hx⟩ : ∃ x, I[k] = x := ⟨_, rfl⟩
        obtain ⟨y, hy⟩ : ∃ y, J[k] = y := ⟨_, rfl⟩
        rw [hx] at e0 t1
        rw [hy] at e1 t2
        have TT := Lib.hid (And.intro t1 (And.intro t2 (And.intro hx hy)))
        have G2 := Lib.hid g2
        clear t1 t2 hx hy g2
        by_cases hxy : x = y
        · have hq : ((x : Int) != (y : Int)) = false := by rw [hxy]; simp
          have hq2 : ((x : Int) == (y : Int)) = true := by rw [hxy]; simp
          have HXY := Lib.hid hxy
          clear hxy
          go_wp2_with fail
          go_quiet (fail)
          go_wp2_with fail
          go_roundw
          case rel => exact ⟨k + 1, hlt, by go_num, G2.out.drewN _, by rw [TT.out.1, TT.out.2.1, HT.out, HXY.out]; rfl⟩
          case measure => simp [intOf]; omega
        · have hq : ((x : Int) != (y : Int)) = true := by simp; omega
          have hq2 : ((x : Int) == (y : Int)) = false := by simp; omega
          have HXY := Lib.hid hxy
          clear hxy
          go_wp2_with fail
          go_quiet (fail)
          go_wp2_with fail
          go_ret
          refine ⟨?_, G2.out.drewN _⟩
          rw [decide_eq_false (fun e => HXY.out (by rw [← TT.out.2.2.1, ← TT.out.2.2.2]; exact List.getElem_of_eq e _))]
          rfl
      · obtain rfl : k = I.length := by omega
        have ht := HT.out
        rw [List.take_length, HLL.out, List.take_length] at ht
        have HTT := Lib.hid ht
        clear ht
        go_wp2_with fail
        go_ret
        exact ⟨by rw [HTT.out, decide_eq_true rfl]; rfl, g2⟩
  · have hlz : ((I.length : Int) != (J.length : Int)) = true := by simp; omega
    have hlz2 : ((I.length : Int) == (J.length : Int)) = false := by simp; omega
    go_wp2_with fail
    go_ret
    refine ⟨?_, Frm.refl _ _⟩
    rw [decide_eq_false (fun e => hl (by rw [e]))]
    rfl
theorem neq_qi (x : QI) (w : World) : (binOp .neq 36 (.agg (qiv x)) (.agg (qiv x))).run Try.prog w = .ok (.bool false) w := by
  have u3 := Try.underlying3
  have u9 := Try.underlying9
  have u34 := Try.underlying34
  have a3 := Try.isAgg3
  have z3 := Try.sizeOf3
  have a9 := Try.isAgg9
  have z9 := Try.sizeOf9
  have a34 := Try.isAgg34
  have z34 := Try.sizeOf34
  have hS : Try.prog.underlying 36 = some (.struct (Try.prog.fieldsOf 36)) := by kernel_rfl
  have hp : Try.prog.stoodInHeld 36 = false := by kernel_rfl
  rw [run_neq_struct, show (10000 : Nat) = 9999 + 1 from rfl, run_equalIn_agg w 9999 36 _ _ hS hp]
  simp only [Program.fieldsOf, Try.underlying36]
  go_simp
theorem qguard (x y : Operand) (xs ys : Array Value) (w : World) : (eqGuard .neq 36 x y (.agg xs) (.agg ys)).run Try.prog w = .ok () w := run_eqGuard_agg _ _ _ _ _ _ _ (by kernel_rfl)
set_option maxRecDepth 100000 in
set_option maxHeartbeats 8000000 in
theorem quotaPrunes_any (v : Value) (l : List QI) (most : Int) (w : World) (h : QL w v l) (hm : -9223372036854775808 ≤ most ∧ most ≤ 9223372036854775807) : Calls Try.prog 3 #[v, .int .i64 most] w fun e w' => e = .returned (.bool true) ∧ Frm (fun _ => False) w w' := by
  obtain ⟨a, cap, rfl, hc1, hc2⟩ := h.slice
  unfold maxLen at hc2
  have HL := Lib.hid h
  have HF := Lib.hid (few_any _ l w h)
  have HW := Lib.hid works_any
  clear h
  cases hf : fewB l with
  | false =>
    rw [hf] at HF
    clear hf
    go_enter Try.func3, Try.ntmps3
    go_wp2_with fail
    refine HF.out.mono ?_
    rintro e w1 ⟨rfl, g1⟩
    have G1 := Lib.hid g1
    clear g1
    go_wp2_with fail
    refine (HW.out _).mono ?_
    rintro e w2 ⟨rfl, g2⟩
    have G2 := Lib.hid (G1.out.trans g2)
    clear g2
    go_wp2_with fail
    go_ret
    exact ⟨rfl, G2.out⟩
  | true =>
    rw [hf] at HF
    have hl30 := fewB_len hf
    clear hf
    go_enter Try.func3, Try.ntmps3
    go_wp2_with fail
    refine HF.out.mono ?_
    rintro e w1 ⟨rfl, g1⟩
    have q1 := HL.out.keepF g1
    obtain ⟨u, w2, hrun, hown, hgr, hnew⟩ := append_qis w1 (.slice none 0 0) (.slice a l.length cap) [] l (Row.nil_ _ _) q1 (by simp; omega)
    rw [List.nil_append] at hown
    obtain ⟨au, cu, rfl, hcu1, hcu2⟩ := hown.slice
    unfold maxLen at hcu2
    have HR := Lib.hid hrun
    have HO := Lib.hid (And.intro hown ((Frm.refl (fun _ => False) w1).grown hgr (fun q hq e => by cases e)))
    have G1 := Lib.hid g1
    clear hrun hown hgr hnew q1 g1
    go_wp2_with (at_builtin; refine Lib.wpList_append_run _ rfl _ _ _ _ rfl _ _ rfl rfl _ _ HR.out ?_)
    have HP := Lib.hid (prune_any _ l most w2 HO.out.1.read (by omega) hm)
    refine HP.out.mono ?_
    rintro e w3 ⟨u3, rfl, i3, g3, n3⟩
    obtain ⟨I, b, hI⟩ : ∃ I b, pruneQ l most = (I, b) := ⟨_, _, rfl⟩
    rw [hI] at i3 ⊢
    have HI := Lib.hid hI
    have F3 := Lib.hid (And.intro i3 ((G1.out.trans HO.out.2).trans g3))
    have O3 := Lib.hid (HO.out.1.keep g3 (fun _ _ h => h))
    clear hI i3 g3 n3 HP
    have HT := Lib.hid (their_any _ l w3 (HL.out.keepF F3.out.2) (by omega))
    go_wp2_with fail
    refine HT.out.mono ?_
    rintro e w4 ⟨u4, rfl, o4, g4, _⟩
    have HP2 := Lib.hid (rprune_any _ l most w4 o4.read (by omega))
    have F4 := Lib.hid (And.intro (Own.keepQ F3.out.1 g4) (F3.out.2.trans g4))
    have O4 := Lib.hid (O3.out.keep g4 (fun _ _ h => h))
    clear g4 o4 F3 O3 HT
    go_wp2_with fail
    refine HP2.out.mono ?_
    rintro e w5 ⟨u5, rfl, i5, g5, _⟩
    rw [HI.out] at i5 ⊢
    have HS := Lib.hid (rsame_any _ _ I I w5 (Own.ids (Own.keepQ F4.out.1 g5)) (Own.ids i5))
    rw [decide_eq_true rfl] at HS
    have F5 := Lib.hid (F4.out.2.trans g5)
    have O5 := Lib.hid (O4.out.keep g5 (fun _ _ h => h))
    clear i5 g5 F4 O4 HP2
    go_wp2_with fail
    refine HS.out.mono ?_
    rintro e w6 ⟨rfl, g6⟩
    have F6 := Lib.hid (F5.out.trans g6)
    have O6 := Lib.hid (O5.out.keep g6 (fun _ _ h => h))
    clear g6 F5 O5 HS
    have HSU := Lib.hid (sum_any _ l w6 O6.out.read (by omega))
    have hbb : (b != b) = false := by simp
    go_wp2_with fail
    refine HSU.out.mono ?_
    rintro e w7 ⟨rfl, g7⟩
    have F7 := Lib.hid (F6.out.trans g7)
    have O7 := Lib.hid (O6.out.keep g7 (fun _ _ h => h))
    clear g7 F6 O6 HSU
    have HT := Lib.hid (their_any _ l w7 (HL.out.keepF F7.out) (by omega))
    go_wp2_with fail
    refine HT.out.mono ?_
    rintro e w8 ⟨u8, rfl, o8, g8, _⟩
    have HRS := Lib.hid (rsum_any _ l w8 o8.read (by omega))
    have F8 := Lib.hid (F7.out.trans g8)
    have O8 := Lib.hid (O7.out.keep g8 (fun _ _ h => h))
    clear g8 o8 F7 O7 HT
    go_wp2_with fail
    refine HRS.out.mono ?_
    rintro e w9 ⟨rfl, g9⟩
    have F9 := Lib.hid (F8.out.trans g9)
    have O9 := Lib.hid (O8.out.keep g9 (fun _ _ h => h))
    clear g9 F8 O8 HRS
    obtain ⟨sm, hsm⟩ : ∃ sm, sumQ l = sm := ⟨_, rfl⟩
    rw [hsm]
    clear hsm
    have hss : ((sm : Int) != (sm : Int)) = false := by simp
    go_wp2_with fail
    go_loopw [10] (fun i wr => ∃ k : Nat, k ≤ l.length ∧ i = .int .i64 k ∧ Frm (fun _ => False) w9 wr) (fun i _ => l.length - (intOf i).toNat)
    case atStart => exact ⟨0, Nat.zero_le _, rfl, Frm.refl _ _⟩
    case round =>
      obtain ⟨k, hk, rfl, g10⟩ := hrel
      by_cases hlt : k < l.length
      · have hki : (k : Int) < (l.length : Int) := by omega
        have hk0 : (0 : Int) ≤ (k : Int) := by omega
        obtain ⟨g, off, rfl, _, e0, e1, e2, e3⟩ := (HL.out.keepF (F9.out.trans g10)).elem k hlt
        obtain ⟨g', off', rfl, _, f0, f1, f2, f3⟩ := (show QL wr (.slice au l.length cu) l from (O9.out.keep g10 (fun _ _ h => h)).read).elem k hlt
        obtain ⟨x, hx⟩ : ∃ x, l[k] = x := ⟨_, rfl⟩
        rw [hx] at e0 e1 e2 e3 f0 f1 f2 f3
        clear hx
        have hne := neq_qi x
        have hgu := qguard
        have G10 := Lib.hid g10
        clear g10
        go_wp2_with fail
        go_quiet (fail)
        go_wp2_with fail
        go_roundw
        case rel => exact ⟨k + 1, hlt, by go_num, G10.out.drewN _⟩
        case measure => simp [intOf]; omega
      · obtain rfl : k = l.length := by omega
        have F10 := Lib.hid (F9.out.trans g10)
        clear g10
        go_wp2_with fail
        refine (HW.out _).mono ?_
        rintro e w11 ⟨rfl, g11⟩
        have F11 := Lib.hid (F10.out.trans g11)
        clear g11
        go_wp2_with fail
        go_ret
        exact ⟨rfl, F11.out⟩
end Go.Proofs.Ytpabblkdepefcaa
