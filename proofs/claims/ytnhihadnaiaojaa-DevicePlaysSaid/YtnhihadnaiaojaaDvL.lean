/- What run does: acts, one after another. No condition. -/
import Derived.Test.YtnhihadnaiaojaaDvK
namespace Go.Proofs.Ytnhihadnaiaojaa
open Go.RowKit Go.Shelf

def DV.act (D : DV) (x : ActD) : DV := if x.k % 6 = 3 then D.flush else if x.k % 6 = 4 then D.crash x.cs else if x.k % 6 = 5 then D else D.writeTo x.q x.s
def DV.acts (D : DV) (L : List ActD) : DV := L.foldl DV.act D
theorem DV.acts_snoc (D : DV) (L : List ActD) (i : Nat) (h : i < L.length) : (D.acts (L.take i)).act L[i] = D.acts (L.take (i + 1)) := by
  unfold DV.acts
  rw [List.take_add_one, List.getElem?_eq_getElem h, List.foldl_append]
  rfl
theorem Frm.addTwo {w0 w w' : World} {f x : Nat} (g : Frm (fun _ => False) w0 w) (g2 : Frm (fun k => k = f ∨ k = x) w w') (hf : w0.heap.size ≤ f) (hx : w0.heap.size ≤ x) : Frm (fun _ => False) w0 w' := g.next g2 fun j hj e => by omega
/-- A region's last operation is a call. -/
theorem wpOp_callD {ops : Array Oper} {Q : Exit → Act → World → Prop} {K : Act → World → Prop} {i : Nat} {o : Oper} {a : Act} {W : World} {f : FuncId} {args : Array Value} {e : Tmp} (hi : ops[i]? = some o) (hd : o.dst = some e) (hw : Region.wanted o (yielded ops a.tmps) = true)
    (h : (execOp a.eval o).run Try.prog W = .ok (.enter f args) W) (hc : Calls Try.prog f args W fun e' W' => ∃ u, e' = .returned u ∧ K (a.put (some e) u) W') : wpOp Try.prog ops Q i K a W :=
  OpOK.wpOp (K := fun u W' => K (a.put (some e) u) W') hi (.inl ⟨hw, by rw [h]; exact hc⟩) fun _ _ h => by rw [hd]; exact h
set_option maxRecDepth 100000 in
set_option maxHeartbeats 8000000 in
theorem run_any (b f x : Nat) (D : DV) (v : Value) (L : List ActD) (w0 w : World) (hA : Acs w0 v L) (g0 : Frm (fun _ => False) w0 w) (hf : w0.heap.size ≤ f) (hx : w0.heap.size ≤ x) (h : DevM w b f x D) (hfew : ∀ i (hi : i < L.length), L[i].cs.length ≤ 1000000) :
    Calls Try.prog 28 #[.pointer (some ⟨b, 0, none⟩), v] w fun e w' => e = .returned (.tuple #[]) ∧ DevM w' b f x (D.acts L) ∧ Frm (fun k => k = f ∨ k = x) w w' := by
  obtain ⟨a, cap, rfl, h1, h2, h3⟩ := hA
  unfold maxLen at h2
  have H := Lib.hid (And.intro h g0)
  have HA := Lib.hid (And.intro h3 hfew)
  clear h g0 h3 hfew
  go_enter Try.func28, Try.ntmps28
  go_wp2_with fail
  go_loopw [4] (fun i wr => ∃ k : Nat, k ≤ L.length ∧ i = .int .i64 k ∧ DevM wr b f x (D.acts (L.take k)) ∧ Frm (fun k => k = f ∨ k = x) w wr) (fun i _ => L.length - (intOf i).toNat)
  case atStart => exact ⟨0, Nat.zero_le _, rfl, H.out.1, Frm.refl _ _⟩
  case round =>
    obtain ⟨i, hi, rfl, hd, gr⟩ := hrel
    by_cases hlt : i < L.length
    · obtain ⟨p, off, c, rfl, hat0⟩ := HA.out.1 i hlt
      have gw := H.out.2.addTwo gr hf hx
      have hat := hat0.keepF gw
      have hlow := hat0.zs.low
      have hcl := HA.out.2 i hlt
      have hstep := DV.acts_snoc D L i hlt
      obtain ⟨y, hy⟩ : ∃ y, L[i] = y := ⟨_, rfl⟩
      rw [hy] at hat hstep hlow hcl
      have c0 := hat.c0
      have c1 := hat.c1
      have c2 := hat.c2
      have c3 := hat.c3
      have hk256 := hat.fits.k
      have hlow2 : y.cs.length = 0 ∨ ∀ g, blkOf c = some g → g ≠ f := hlow.imp id fun h q e => by have := h q e; omega
      have HT := Lib.hid (And.intro hat (And.intro hstep (And.intro hlow2 hcl)))
      have HD := Lib.hid (And.intro hd gr)
      clear hat0 hat hstep hlow hlow2 hcl hd gr gw hy
      obtain ⟨m, hm⟩ : ∃ m, y.k % 6 = m := ⟨_, rfl⟩
      have hm6 : m < 6 := by omega
      have t1 : (y.k : Int) % 6 = (m : Int) := by omega
      have t1' : (y.k : Int).tmod 6 = (m : Int) := by rw [Int.tmod_eq_emod_of_nonneg (by omega)]; exact t1
      have t3 : IntKind.u8.wrap (m : Int) = (m : Int) := IntWalk.u8_in _ (by omega)
      have hli : (i : Int) < (L.length : Int) := by omega
      have HM := Lib.hid hm
      clear hm
      by_cases e3 : m = 3
      · subst e3
        have HF := Lib.hid (flush_any b f x (D.acts (L.take i)) wr HD.out.1)
        go_wp2_with fail
        refine HF.out.mono ?_
        rintro e w1 ⟨rfl, hd1, g1⟩
        have ea : (D.acts (L.take i)).flush = D.acts (L.take (i + 1)) := by
          rw [← HT.out.2.1]
          unfold DV.act
          rw [if_pos HM.out]
        rw [ea] at hd1
        have gr1 := HD.out.2.trans g1
        go_wp2_with fail
        go_roundw
        case rel => exact ⟨i + 1, by omega, by go_num, hd1, gr1⟩
        case measure => simp [intOf]; omega
      · have n3 : ¬ (m : Int) = 3 := by omega
        have b3 : ((m : Int) == 3) = false := by rw [beq_eq_false_iff_ne]; exact n3
        by_cases e4 : m = 4
        · subst e4
          have HF := Lib.hid (crash_any b f x (D.acts (L.take i)) c y.cs wr HD.out.1 HT.out.1.zs HT.out.1.fits.cs HT.out.2.2.2 HT.out.2.2.1)
          have a31 := Try.isAgg31
          have z31 := Try.sizeOf31
          go_wp2_with fail
          refine HF.out.mono ?_
          rintro e w1 ⟨rfl, hd1, g1⟩
          have ea : (D.acts (L.take i)).crash y.cs = D.acts (L.take (i + 1)) := by
            rw [← HT.out.2.1]
            unfold DV.act
            rw [if_neg (by rw [HM.out]; decide), if_pos HM.out]
          rw [ea] at hd1
          have gr1 := HD.out.2.trans g1
          go_wp2_with fail
          go_roundw
          case rel => exact ⟨i + 1, by omega, by go_num, hd1, gr1⟩
          case measure => simp [intOf]; omega
        · have n4 : ¬ (m : Int) = 4 := by omega
          have b4 : ((m : Int) == 4) = false := by rw [beq_eq_false_iff_ne]; exact n4
          by_cases e5 : m = 5
          · subst e5
            have ea : D.acts (L.take i) = D.acts (L.take (i + 1)) := by
              rw [← HT.out.2.1]
              unfold DV.act
              rw [if_neg (by rw [HM.out]; decide), if_neg (by rw [HM.out]; decide), if_pos HM.out]
            have hd1 := HD.out.1
            rw [ea] at hd1
            go_wp2_with fail
            go_roundw
            case rel => exact ⟨i + 1, by omega, by go_num, hd1, HD.out.2⟩
            case measure => simp [intOf]; omega
          · have n5 : ¬ (m : Int) = 5 := by omega
            have b5 : ((m : Int) == 5) = false := by rw [beq_eq_false_iff_ne]; exact n5
            have HW : Hid (∀ W, Frm (fun _ => False) wr W → Calls Try.prog 16 #[.pointer (some ⟨b, 0, none⟩), .int .i64 y.q, .string (bs y.s)] W fun e w' => e = .returned (.int .i64 ((D.acts (L.take i)).writeE y.q y.s : Nat)) ∧ DevM w' b f x (D.acts (L.take (i + 1))) ∧ Frm (· = x) W w') := Lib.hid fun W g => by
              have ea : (D.acts (L.take i)).writeTo y.q y.s = D.acts (L.take (i + 1)) := by
                rw [← HT.out.2.1]
                unfold DV.act
                rw [if_neg (by rw [HM.out]; omega), if_neg (by rw [HM.out]; omega), if_neg (by rw [HM.out]; omega)]
              rw [← ea]
              exact write_any b f x (D.acts (L.take i)) y.q y.s W (HD.out.1.keepF g) HT.out.1.fits.q HT.out.1.fits.s
            go_upto_region 4 with fail
            refine wp_region_root (fun w' => w'.cell? ⟨p, off + i * 4 + 1, none⟩ = some (.int .i64 y.q) ∧ w'.cell? ⟨p, off + i * 4 + 2, none⟩ = some (.string (bs y.s)) ∧ Frm (fun _ => False) wr w') (by kernel_rfl) rfl rfl (by kernel_rfl) (by kernel_rfl) (by kernel_rfl) (⟨c1, c2, (Frm.refl _ wr).drew⟩) ?_
            repeat' first
              | (refine CanonL.skip (by rfl) ?_; (try simp only [Act.put, List.setIfInBounds_toArray, List.set_cons_zero, List.set_cons_succ]))
              | (refine CanonL.val (v := ?_) (by rfl) ?_ ?_; rotate_left 1; (focus (intro w hSw; (try dsimp only at hSw); go_simp; (try (with_reducible rfl)); done)); (try simp only [Act.put, List.setIfInBounds_toArray, List.set_cons_zero, List.set_cons_succ]))
            refine CanonL.done ?_
            intro w9 hS9
            obtain ⟨_, _, g9⟩ := hS9
            refine wpOp_callD rfl rfl (by rfl) (by go_simp) ((HW.out w9 g9).mono ?_)
            rintro e w1 ⟨rfl, hd1, g1⟩
            have gr1 := (HD.out.2.trans (g9.mono fun _ _ h => h.elim)).trans (g1.mono fun _ _ h => .inr h)
            refine ⟨_, rfl, ?_⟩
            simp only [Act.put, List.setIfInBounds_toArray, List.set_cons_zero, List.set_cons_succ]
            go_wp2_with fail
            go_roundw
            case rel => exact ⟨i + 1, by omega, by go_num, hd1, gr1⟩
            case measure => simp [intOf]; omega
    · obtain rfl : i = L.length := by omega
      go_wp2_with fail
      go_end0
      rw [List.take_length] at hd
      exact ⟨rfl, hd, gr⟩
end Go.Proofs.Ytnhihadnaiaojaa
