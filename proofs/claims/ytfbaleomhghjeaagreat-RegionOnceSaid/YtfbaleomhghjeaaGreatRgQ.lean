/- What Flush, Seal and Format of a region answer and leave. No condition. -/
import Derived.Test.YtfbaleomhghjeaaGreatRgP
import Derived.Test.YtfbaleomhghjeaaGreatCanonP
namespace Go.Proofs.YtfbaleomhghjeaaGreat
open Go.RowKit Go.Shelf

section
variable {w w' w'' : World} {g l b f x : Nat} {R : RV} {L : LV}
/-- The line of a region did an act. -/
theorem RgM.acted (h : RgM w g l b f x R L) (F : DV → DV) (hF : (F L.D).n = L.D.n) (h1 : LnM w' l b f x (L.act (F L.D))) (hg : Frm (LnX l f x) w w') : RgM w' g l b f x R (L.act (F L.D)) :=
  h.lined h1 hg (LV.act_same L _).1 (LV.act_same L _).2.2.2 (LV.act_n L _ hF)
theorem Frm.rgL (h : Frm (LnX l f x) w w') : Frm (RgX g l f x) w w' := h.mono fun _ _ h => .inr h
theorem Frm.rgG (h : Frm (· = g) w w') : Frm (RgX g l f x) w w' := h.mono fun _ _ h => .inl h
theorem Frm.rgF (h : Frm (fun _ => False) w w') : Frm (RgX g l f x) w w' := h.mono fun _ _ h => h.elim
end
set_option maxRecDepth 100000 in
set_option maxHeartbeats 2000000 in
theorem rflush13_any (g l b f x : Nat) (R : RV) (L : LV) (w : World) (h : RgM w g l b f x R L) (ha : L.acts ≤ 1000000) :
    Calls Tryz.prog 31 #[.pointer (some ⟨g, 0, none⟩)] w (RgTo g l b f x (flR R L) w) := by
  have HU := rusable_any g l b f x R L w h
  unfold flR
  cases hb : R.bad with
  | true =>
    rw [hb] at HU
    have HU := Lib.hid HU
    have HR := Lib.hid h
    clear h hb ha
    go_enter Tryz.func31, Tryz.ntmps31
    go_wp2_with fail
    refine HU.out.mono ?_
    rintro e w1 ⟨rfl, rfl⟩
    go_wp2_with fail
    go_ret
    exact ⟨rfl, HR.out, Frm.refl _ _⟩
  | false =>
    rw [hb] at HU
    have HU := Lib.hid HU
    have c1 := h.c1
    have HF := Lib.hid (lnflush_any l b f x L w h.ln ha)
    have HR := Lib.hid h
    rw [seq_one]
    obtain ⟨c, hc⟩ : ∃ c, L.code 0 = c := ⟨_, rfl⟩
    rw [hc] at HF ⊢
    clear h hb ha hc
    go_enter Tryz.func31, Tryz.ntmps31
    go_wp2_with fail
    refine HU.out.mono ?_
    rintro e w1 ⟨rfl, rfl⟩
    go_wp2_with fail
    refine HF.out.mono ?_
    rintro e w1 ⟨rfl, h1, g1⟩
    have hR1 := HR.out.acted DV.flush rfl h1 g1
    have HD := Lib.hid (rdone_any g l b f x R _ c w1 hR1)
    have G1 := Lib.hid g1
    clear h1 g1 hR1 HF
    go_wp2_with fail
    refine HD.out.mono ?_
    rintro e w2 ⟨rfl, h2, g2⟩
    have H2 := Lib.hid (And.intro h2 (G1.out.rgL.trans g2.rgG))
    clear h2 g2 HD
    go_wp2_with fail
    go_ret
    exact ⟨rfl, H2.out⟩
set_option maxRecDepth 100000 in
set_option maxHeartbeats 4000000 in
theorem rseal_any (g l b f x gen : Nat) (R : RV) (L : LV) (w : World) (h : RgM w g l b f x R L) (ha : L.acts ≤ 900000) (hgen : gen < 4294967296) :
    Calls Tryz.prog 29 #[.pointer (some ⟨g, 0, none⟩), .int .u32 (gen : Nat)] w (RgTo g l b f x (slR R L gen) w) := by
  have HM := Lib.hid (rmade_any g l b f x R L w h)
  unfold slR
  by_cases h0 : gen = 0
  · subst h0
    rw [if_pos rfl]
    have HR := Lib.hid h
    clear h ha
    go_enter Tryz.func29, Tryz.ntmps29
    go_wp2_with fail
    refine HM.out.mono ?_
    rintro e w1 ⟨rfl, rfl⟩
    go_wp2_with fail
    go_ret
    exact ⟨rfl, HR.out, Frm.refl _ _⟩
  · rw [if_neg h0]
    have hq : ((gen : Int) == 0) = false := by rw [beq_eq_false_iff_ne]; omega
    have HU := rusable_any g l b f x R L w h
    cases hb : R.bad with
    | true =>
      rw [hb] at HU
      have HU := Lib.hid HU
      have HR := Lib.hid h
      clear h hb ha h0
      go_enter Tryz.func29, Tryz.ntmps29
      go_wp2_with fail
      refine HM.out.mono ?_
      rintro e w1 ⟨rfl, rfl⟩
      go_wp2_with fail
      refine HU.out.mono ?_
      rintro e w1 ⟨rfl, rfl⟩
      go_wp2_with fail
      go_ret
      exact ⟨rfl, HR.out, Frm.refl _ _⟩
    | false =>
      rw [hb] at HU
      have HU := Lib.hid HU
      have c1 := h.c1
      have c2 := h.c2
      have hbd := h.bound
      have hrk := h.rok
      have HH := Lib.hid (fun W => header_any gen W hgen)
      have hE : L.D.writeE (R.at_ : Int) (hdB gen) = 0 := writeE_ok (by omega) (by have := hrk.hi; have := hrk.lo; omega) (by rw [hdB_len]; omega)
      have HW : Hid (∀ W, Frm (fun _ => False) w W → Calls Tryz.prog 16 #[.pointer (some ⟨l, 0, none⟩), .int .i64 (R.at_ : Nat), .string (bs (hdB gen))] W fun e w' => e = .returned (.int .i64 (L.code 0 : Nat)) ∧ LnM w' l b f x (L.act (wrD R.at_ (hdB gen) L.D)) ∧ Frm (LnX l f x) W w') := Lib.hid fun W gW => by
        have := lwrite_any l b f x L (R.at_ : Int) (hdB gen) W (h.ln.keepF gW) (by omega) (by unfold Z64; omega) (by rw [hdB_len]; omega)
        rw [hE] at this
        exact this
      have HR := Lib.hid h
      have HA := Lib.hid (And.intro ha (And.intro hrk hb))
      rw [LV.seq_cons]
      clear h ha h0 hrk hE
      obtain ⟨hd, hhd⟩ : ∃ hd, hdB gen = hd := ⟨_, rfl⟩
      rw [hhd] at HH HW ⊢
      obtain ⟨at_, hat⟩ : ∃ at_, R.at_ = at_ := ⟨_, rfl⟩
      rw [hat] at c2 HW hbd ⊢
      have HHD := Lib.hid (And.intro hhd hat)
      clear hhd hat
      have hcode := L.code_or
      obtain ⟨c, hc⟩ : ∃ c, L.code 0 = c := ⟨_, rfl⟩
      rw [hc] at HW hcode ⊢
      clear hc
      go_enter Tryz.func29, Tryz.ntmps29
      go_wp2_with fail
      refine HM.out.mono ?_
      rintro e w1 ⟨rfl, rfl⟩
      go_wp2_with fail
      refine HU.out.mono ?_
      rintro e w1 ⟨rfl, rfl⟩
      go_upto_region 6 with fail
      refine wp_region_pend 10 2 (fun w' => w'.cell? ⟨g, 1, none⟩ = some (.pointer (some ⟨l, 0, none⟩)) ∧ w'.cell? ⟨g, 2, none⟩ = some (.int .i64 (at_ : Nat)) ∧ Frm (fun _ => False) w w') (fun _ => True) (.pointer (some ⟨g, 0, none⟩)) (by kernel_rfl) rfl rfl (by kernel_rfl) rfl (by kernel_rfl) (by kernel_rfl) (by kernel_rfl) (fun _ _ => trivial) ⟨c1, c2, (Frm.refl _ w).drew⟩ ⟨by rfl, fun w _ => by go_simp⟩ ?_
      try simp only [Act.put, List.setIfInBounds_toArray, List.set_cons_zero, List.set_cons_succ]
      repeat' first
        | (refine CanonL.skip (by rfl) ?_; (try simp only [Act.put, List.setIfInBounds_toArray, List.set_cons_zero, List.set_cons_succ]))
        | (refine CanonL.callQ (by rfl) (by rfl) ?_ HH ?_ ?_; (focus (intro w; go_simp; (try (with_reducible rfl)); done)); (focus (rintro w ww hs gg; exact ⟨dFrm_cell gg hs.1, dFrm_cell gg hs.2.1, hs.2.2.trans gg⟩)); (try simp only [Act.put, List.setIfInBounds_toArray, List.set_cons_zero, List.set_cons_succ]))
        | (refine CanonL.val (v := ?_) (by rfl) ?_ ?_; rotate_left 1; (focus (intro w hSw; (try dsimp only at hSw); go_simp; (try (with_reducible rfl)); done)); (try simp only [Act.put, List.setIfInBounds_toArray, List.set_cons_zero, List.set_cons_succ]))
      refine CanonL.done ?_
      intro w9 hS9
      obtain ⟨_, _, g9⟩ := hS9
      have HW9 := Lib.hid (HW.out w9 g9)
      have G9 := Lib.hid g9
      clear g9 HW c1 c2
      refine ⟨_, rfl, ?_⟩
      refine OpOK.callK (by rfl) (by go_simp) (HW9.out.mono ?_)
      rintro e w1 ⟨rfl, h1, g1⟩
      refine ⟨_, rfl, trivial, ?_⟩
      have hR1 := (HR.out.keepF G9.out).acted (wrD at_ hd) (writeTo_n _ _ _) h1 g1
      have HD := Lib.hid (rdone_any g l b f x R _ c w1 hR1)
      have G1 := Lib.hid ((G9.out.mono (fun _ _ h => h.elim : ∀ k, k < w.heap.size → False → LnX l f x k)).trans g1)
      clear h1 g1 hR1 HW9 G9
      refine wpTail.cons rfl rfl (fun K hK => ?_)
      unfold Oper.wp execOp
      go_simp
      with_reducible refine HD.out.mono ?_
      rintro e w2 ⟨rfl, h2, g2⟩
      have H2 := Lib.hid (And.intro h2 (G1.out.rgL.trans g2.rgG))
      clear h2 g2 HD
      refine hK _ _ ?_
      clear hK K
      try simp only [Act.put, List.setIfInBounds_toArray, List.set_cons_zero, List.set_cons_succ]
      refine wpTail.cons rfl rfl (fun K hK => ?_)
      unfold Oper.wp execOp
      go_simp
      refine hK _ _ ?_
      clear hK K
      try simp only [Act.put, List.setIfInBounds_toArray, List.set_cons_zero, List.set_cons_succ]
      refine wpTail.done ?_
      rcases hcode with rfl | rfl
      · have hR2 := H2.out.1
        have HFL := rflush13_any g l b f x _ _ w2 hR2 (by have := (LV.act_same L (wrD at_ hd L.D)).2.1; have := HA.out.1; omega)
        have e1 : flR { R with bad := errB 0 } (L.act (wrD at_ hd L.D)) = ({ R with bad := errB ((L.act (wrD at_ hd L.D)).seq [DV.flush]).2 }, ((L.act (wrD at_ hd L.D)).seq [DV.flush]).1, ((L.act (wrD at_ hd L.D)).seq [DV.flush]).2) := rfl
        rw [e1] at HFL
        have HFL := Lib.hid HFL
        clear hR2 e1
        go_wp2_with fail
        refine HFL.out.mono ?_
        rintro e w3 ⟨rfl, h3, g3⟩
        have H3 := Lib.hid (And.intro h3 (H2.out.2.trans g3))
        clear h3 g3 HFL H2
        go_wp2_with fail
        go_ret
        obtain ⟨_, hat⟩ := HHD.out
        subst hat
        exact ⟨rfl, H3.out⟩
      · go_wp2_with fail
        go_ret
        obtain ⟨_, hat⟩ := HHD.out
        subst hat
        exact ⟨rfl, H2.out⟩
end Go.Proofs.YtfbaleomhghjeaaGreat

