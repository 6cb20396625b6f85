/- What run does: acts over a line, up to a bound; what the device is then. No condition. -/
import Derived.Test.YtdhngbfigklaoaaLnF
namespace Go.Proofs.Ytdhngbfigklaoaa
open Go.RowKit Go.Shelf

/-- A region's last operation is a call. -/
theorem wpOp_callD {ops : Array Oper} {Q : Exit → Act → World → Prop} {K : Act → World → Prop} {i : Nat} {o : Oper} {a : Act} {W : World} {f : FuncId} {args : Array Value} {e : Tmp} (hi : ops[i]? = some o) (hd : o.dst = some e) (hw : Region.wanted o (yielded ops a.tmps) = true)
    (h : (execOp a.eval o).run Try.prog W = .ok (.enter f args) W) (hc : Calls Try.prog f args W fun e' W' => ∃ u, e' = .returned u ∧ K (a.put (some e) u) W') : wpOp Try.prog ops Q i K a W :=
  OpOK.wpOp (K := fun u W' => K (a.put (some e) u) W') hi (.inl ⟨hw, by rw [h]; exact hc⟩) fun _ _ h => by rw [hd]; exact h
def DV.a3 (D : DV) (x : A3) : DV := if x.k % 5 = 2 then D.flush else D.writeTo x.q x.s
def A3.isAct (x : A3) : Prop := x.k % 5 < 3
instance (x : A3) : Decidable x.isAct := inferInstanceAs (Decidable (x.k % 5 < 3))
def stepA (most : Nat) (p : LV × Nat) (x : A3) : LV × Nat := if p.2 < most ∧ x.isAct then (p.1.act (p.1.D.a3 x), p.2 + 1) else p
def runA (most : Nat) (L : LV) (l : List A3) : LV × Nat := l.foldl (stepA most) (L, 0)
theorem runA_snoc (most : Nat) (L : LV) (l : List A3) (i : Nat) (h : i < l.length) : runA most L (l.take (i + 1)) = stepA most (runA most L (l.take i)) l[i] := by
  unfold runA
  rw [List.take_add_one, List.getElem?_eq_getElem h, List.foldl_append]
  rfl
theorem stepA_full {most : Nat} {p : LV × Nat} (h : most ≤ p.2) : ∀ l : List A3, l.foldl (stepA most) p = p
  | [] => rfl
  | x :: l => by
    rw [List.foldl_cons, show stepA most p x = p from by unfold stepA; rw [if_neg (by omega)]]
    exact stepA_full h l
theorem runA_full {most : Nat} {L : LV} {l : List A3} {i : Nat} (h : most ≤ (runA most L (l.take i)).2) : runA most L l = runA most L (l.take i) := by
  unfold runA at h ⊢
  conv => lhs; rw [← List.take_append_drop i l, List.foldl_append]
  exact stepA_full h _
theorem runA_two (most : Nat) (L : LV) : ∀ l : List A3, (runA most L l).2 ≤ most ∧ (runA most L l).2 ≤ l.length ∧ (runA most L l).1.acts ≤ L.acts + (runA most L l).2 ∧ (runA most L l).1.D.n = L.D.n := by
  have key : ∀ (l : List A3) (p : LV × Nat), p.2 ≤ most → (l.foldl (stepA most) p).2 ≤ most ∧ (l.foldl (stepA most) p).2 ≤ p.2 + l.length ∧ (l.foldl (stepA most) p).1.acts ≤ p.1.acts + ((l.foldl (stepA most) p).2 - p.2) ∧ p.2 ≤ (l.foldl (stepA most) p).2 ∧ (l.foldl (stepA most) p).1.D.n = p.1.D.n := by
    intro l
    induction l with
    | nil => intro p h; exact ⟨h, by simp, by simp, Nat.le_refl _, rfl⟩
    | cons x l ih =>
      intro p h
      rw [List.foldl_cons]
      by_cases e : p.2 < most ∧ x.isAct
      · have es : stepA most p x = (p.1.act (p.1.D.a3 x), p.2 + 1) := by unfold stepA; rw [if_pos e]
        have h2 := ih (stepA most p x) (by rw [es]; exact e.1)
        rw [es] at h2 ⊢
        have ha : (p.1.act (p.1.D.a3 x)).acts ≤ p.1.acts + 1 := by
          unfold LV.act
          split
          · omega
          split
          · exact Nat.le_refl _
          split <;> exact Nat.le_refl _
        have hn : (p.1.act (p.1.D.a3 x)).D.n = p.1.D.n := by
          have hx : (p.1.D.a3 x).n = p.1.D.n := by
            unfold DV.a3
            split
            · rfl
            · exact writeTo_n _ _ _
          unfold LV.act
          split
          · rfl
          split
          · exact hx
          split
          · exact hx
          · rfl
        dsimp only at h2
        rw [List.length_cons]
        exact ⟨h2.1, by omega, by omega, by omega, by rw [h2.2.2.2.2, hn]⟩
      · have es : stepA most p x = p := by unfold stepA; rw [if_neg e]
        have h2 := ih p h
        rw [es, List.length_cons]
        exact ⟨h2.1, by omega, h2.2.2.1, h2.2.2.2.1, h2.2.2.2.2⟩
  intro l
  have h := key l (L, 0) (Nat.zero_le _)
  unfold runA
  exact ⟨h.1, by have := h.2.1; omega, by have := h.2.2.1; simpa using this, h.2.2.2.2⟩
theorem Sl.keepFX {w w' : World} {l f x : Nat} {v : Value} {L : List A3} (h : A3L w v L) (g : Frm (LnX l f x) w w') (ho : w.heap.size ≤ l ∧ w.heap.size ≤ f ∧ w.heap.size ≤ x) : A3L w' v L := h.keep g fun k hk hX => by unfold LnX at hX; omega
set_option maxRecDepth 100000 in
set_option maxHeartbeats 8000000 in
theorem run12_any (l b f x : Nat) (L : LV) (v : Value) (A : List A3) (most : Nat) (w0 w : World) (hA : A3L w0 v A) (g0 : Frm (fun _ => False) w0 w) (ho : w0.heap.size ≤ l ∧ w0.heap.size ≤ f ∧ w0.heap.size ≤ x) (h : LnM w l b f x L) (ha : L.acts ≤ 100) (hm : most ≤ 1000) :
    Calls Try.prog 17 #[.pointer (some ⟨l, 0, none⟩), v, .int .i64 (most : Nat)] w fun e w' => e = .returned (.int .i64 ((runA most L A).2 : Nat)) ∧ LnM w' l b f x (runA most L A).1 ∧ Frm (LnX l f x) w w' := by
  obtain ⟨a, cap, rfl, h1, h2⟩ := hA.slice
  unfold maxLen at h2
  have H := Lib.hid (And.intro h g0)
  have HA := Lib.hid hA
  have HO := Lib.hid ho
  clear h g0 hA ho
  go_enter Try.func17, Try.ntmps17
  go_wp2_with fail
  go_loopw [7, 8] (fun n i wr => ∃ k : Nat, k ≤ A.length ∧ i = .int .i64 k ∧ n = .int .i64 ((runA most L (A.take k)).2 : Nat) ∧ LnM wr l b f x (runA most L (A.take k)).1 ∧ Frm (LnX l f x) w wr) (fun _ i _ => A.length - (intOf i).toNat)
  case atStart => exact ⟨0, Nat.zero_le _, rfl, rfl, H.out.1, Frm.refl _ _⟩
  case round =>
    obtain ⟨i, hi, rfl, rfl, hd, gr⟩ := hrel
    have h2m := runA_two most L (A.take i)
    have hd := Lib.hid (And.intro hd (And.intro gr h2m))
    obtain ⟨n, hn⟩ : ∃ n, (runA most L (A.take i)).2 = n := ⟨_, rfl⟩
    obtain ⟨M, hM⟩ : ∃ M, (runA most L (A.take i)).1 = M := ⟨_, rfl⟩
    rw [hn, hM] at hd
    rw [hn] at h2m ⊢
    have hacts : M.acts ≤ 1000000 := by
      have := hd.out.2.2.2.2.1
      omega
    have hn1000 : n ≤ 1000 := by omega
    have HN := Lib.hid (And.intro hn hM)
    clear gr h2m hn hM
    by_cases hlt : i < A.length
    · have gw : Frm (fun _ => False) w0 wr := H.out.2.toNewX hd.out.2.1 HO.out
      obtain ⟨p, off, rfl, hp, c0, c1, c2⟩ := (HA.out.keepF gw).elem i hlt
      have hstep := runA_snoc most L A i hlt
      have hb := And.intro A[i].hk (And.intro A[i].hq A[i].hs)
      have e1 : (runA most L (A.take i)) = (M, n) := by rw [← HN.out.1, ← HN.out.2]
      rw [e1] at hstep
      obtain ⟨y, hy⟩ : ∃ y, A[i] = y := ⟨_, rfl⟩
      rw [hy] at c0 c1 c2 hstep hb
      have hk256 := hb.1
      have HB := Lib.hid hb
      have HS := Lib.hid hstep
      have HGW := Lib.hid gw
      clear hb hstep gw hy e1
      by_cases hnm : n < most
      · have hnm1 : decide ((n : Int) < (most : Int)) = true := decide_eq_true (by omega)
        have hnm2 : decide (n < most) = true := decide_eq_true hnm
        obtain ⟨m, hmm⟩ : ∃ m, y.k % 5 = m := ⟨_, rfl⟩
        have hm6 : m < 5 := by omega
        have t1 : (y.k : Int) % 5 = (m : Int) := by omega
        have t1' : (y.k : Int).tmod 5 = (m : Int) := by rw [Int.tmod_eq_emod_of_nonneg (by omega)]; exact t1
        have t3 : IntKind.u8.wrap (m : Int) = (m : Int) := IntWalk.u8_in _ (by omega)
        have hli : (i : Int) < (A.length : Int) := by omega
        have HM := Lib.hid (And.intro hmm hnm)
        clear hmm
        by_cases e2 : m = 2
        · subst e2
          have HF := Lib.hid (lnflush_any l b f x M wr hd.out.1 hacts)
          have ea : (runA most L (A.take (i + 1))) = (M.act M.D.flush, n + 1) := by
            rw [HS.out]
            unfold stepA A3.isAct DV.a3
            rw [if_pos ⟨HM.out.2, by have := HM.out.1; omega⟩, if_pos HM.out.1]
          have EA := Lib.hid ea
          clear ea hacts
          go_wp2_with fail
          refine HF.out.mono ?_
          rintro e w1 ⟨rfl, hd1, g1⟩
          have gr1 := Lib.hid (hd.out.2.1.trans g1)
          have hd1 := Lib.hid hd1
          clear g1 HF
          go_wp2_with fail
          go_roundw
          case rel => exact ⟨i + 1, by omega, by go_num, by rw [EA.out]; go_num, by rw [EA.out]; exact hd1.out, gr1.out⟩
          case measure => simp [intOf]; omega
        · have n2 : ¬ (m : Int) = 2 := by omega
          have b2 : ((m : Int) == 2) = false := by rw [beq_eq_false_iff_ne]; exact n2
          by_cases e3 : m < 3
          · have ea : (runA most L (A.take (i + 1))) = (M.act (M.D.writeTo y.q y.s), n + 1) := by
              rw [HS.out]
              unfold stepA A3.isAct DV.a3
              rw [if_pos ⟨HM.out.2, by have := HM.out.1; omega⟩, if_neg (by rw [HM.out.1]; exact e2)]
            have EA := Lib.hid ea
            have hm01 : m = 0 ∨ m = 1 := by omega
            have HW : Hid (∀ W, Frm (fun _ => False) wr W → Calls Try.prog 21 #[.pointer (some ⟨l, 0, none⟩), .int .i64 y.q, .string (bs y.s)] W fun e w' => e = .returned (.int .i64 (M.code (M.D.writeE y.q y.s) : Nat)) ∧ LnM w' l b f x (M.act (M.D.writeTo y.q y.s)) ∧ Frm (LnX l f x) W w') := Lib.hid fun W g => lwrite_any l b f x M y.q y.s W (hd.out.1.keepF g) hacts HB.out.2.1 HB.out.2.2
            have c1' := Lib.hid c1
            have c2' := Lib.hid c2
            clear ea hacts c1 c2 e2 e3
            rcases hm01 with rfl | rfl
            all_goals
              go_upto_region 8 with fail
              have c1 := c1'.out
              have c2 := c2'.out
              refine wp_region_root (fun w' => w'.cell? ⟨p, off + i * 3 + 1, none⟩ = some (.int .i64 y.q) ∧ w'.cell? ⟨p, off + i * 3 + 2, none⟩ = some (.string (bs y.s)) ∧ Frm (fun _ => False) wr w') (by kernel_rfl) rfl rfl (by kernel_rfl) (by kernel_rfl) (by kernel_rfl) (⟨c1, c2, (Frm.refl _ wr).drew⟩) ?_
              repeat' first
                | (refine CanonL.skip (by rfl) ?_; (try simp only [Act.put, List.setIfInBounds_toArray, List.set_cons_zero, List.set_cons_succ]))
                | (refine CanonL.val (v := ?_) (by rfl) ?_ ?_; rotate_left 1; (focus (intro w hSw; (try dsimp only at hSw); go_simp; (try (with_reducible rfl)); done)); (try simp only [Act.put, List.setIfInBounds_toArray, List.set_cons_zero, List.set_cons_succ]))
              refine CanonL.done ?_
              intro w9 hS9
              obtain ⟨_, _, g9⟩ := hS9
              refine wpOp_callD rfl rfl (by rfl) (by go_simp) ((HW.out w9 g9).mono ?_)
              rintro e w1 ⟨rfl, hd1, g1⟩
              have gr1 := Lib.hid ((hd.out.2.1.trans (g9.mono fun _ _ h => h.elim)).trans g1)
              have hd1 := Lib.hid hd1
              clear g9 g1 HW c1 c2
              refine ⟨_, rfl, ?_⟩
              simp only [Act.put, List.setIfInBounds_toArray, List.set_cons_zero, List.set_cons_succ]
              go_wp2_with fail
              go_roundw
              case rel => exact ⟨i + 1, by omega, by go_num, by rw [EA.out]; go_num, by rw [EA.out]; exact hd1.out, gr1.out⟩
              case measure => simp [intOf]; omega
          · have ea : (runA most L (A.take (i + 1))) = (M, n) := by
              rw [HS.out]
              unfold stepA A3.isAct
              rw [if_neg (by rw [HM.out.1]; omega)]
            have EA := Lib.hid ea
            have n0 : ¬ (m : Int) = 0 := by omega
            have b0 : ((m : Int) == 0) = false := by rw [beq_eq_false_iff_ne]; exact n0
            have n1 : ¬ (m : Int) = 1 := by omega
            have b1 : ((m : Int) == 1) = false := by rw [beq_eq_false_iff_ne]; exact n1
            clear ea hacts e2 e3
            go_wp2_with fail
            go_roundw
            case rel => exact ⟨i + 1, by omega, by go_num, by rw [EA.out], by rw [EA.out]; exact hd.out.1, hd.out.2.1⟩
            case measure => simp [intOf]; omega
      · have hnm1 : decide ((n : Int) < (most : Int)) = false := decide_eq_false (by omega)
        have hnm2 : decide (n < most) = false := decide_eq_false hnm
        have ef : runA most L A = (M, n) := by
          rw [← HN.out.2, ← HN.out.1]
          exact runA_full (i := i) (by rw [HN.out.1]; omega)
        have EF := Lib.hid ef
        have hli : (i : Int) < (A.length : Int) := by omega
        clear ef hnm
        go_wp2_with fail
        go_ret
        exact ⟨by rw [EF.out]; rfl, by rw [EF.out]; exact hd.out.1, hd.out.2.1⟩
    · obtain rfl : i = A.length := by omega
      have ef : runA most L A = (M, n) := by
        rw [← HN.out.2, ← HN.out.1, List.take_length]
      have EF := Lib.hid ef
      clear ef
      go_wp2_with fail
      go_ret
      exact ⟨by rw [EF.out]; rfl, by rw [EF.out]; exact hd.out.1, hd.out.2.1⟩
end Go.Proofs.Ytdhngbfigklaoaa
