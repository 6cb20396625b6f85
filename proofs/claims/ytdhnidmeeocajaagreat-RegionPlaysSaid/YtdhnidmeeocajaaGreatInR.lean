/- What Flush, Seal and Format of a region answer and leave. No condition. -/
import Derived.Test.YtdhnidmeeocajaaGreatRgP
import Derived.Test.YtdhnidmeeocajaaGreatCanonP
import Derived.Test.YtdhnidmeeocajaaGreatLate
import Derived.Test.YtdhnidmeeocajaaGreatCodecV
section
namespace Go.Proofs.YtdhnidmeeocajaaGreat
open Go.RowKit Go.Shelf

section
variable {w w' w'' : World} {g l b f x : Nat} {R : RV} {L : LV}
/-- The line of a region did an act. -/
theorem RgM.acted (h : RgM w g l b f x R L) (F : DV → DV) (hF : (F L.D).n = L.D.n) (h1 : LnM w' l b f x (L.act (F L.D))) (hg : Frm (LnX l f x) w w') : RgM w' g l b f x R (L.act (F L.D)) :=
  h.lined h1 hg (LV.act_same L _).1 (LV.act_same L _).2.2.2 (LV.act_n L _ hF)
theorem Frm.rgL (h : Frm (LnX l f x) w w') : Frm (RgX g l f x) w w' := h.mono fun _ _ h => .inr h
theorem Frm.rgG (h : Frm (· = g) w w') : Frm (RgX g l f x) w w' := h.mono fun _ _ h => .inl h
theorem Frm.rgF (h : Frm (fun _ => False) w w') : Frm (RgX g l f x) w w' := h.mono fun _ _ h => h.elim
end
set_option maxRecDepth 100000 in
set_option maxHeartbeats 2000000 in
theorem rflush13_any (g l b f x : Nat) (R : RV) (L : LV) (w : World) (h : RgM w g l b f x R L) (ha : L.acts ≤ 1000000) :
    Calls Tryz.prog 31 #[.pointer (some ⟨g, 0, none⟩)] w (RgTo g l b f x (flR R L) w) := by
  have HU := rusable_any g l b f x R L w h
  unfold flR
  cases hb : R.bad with
  | true =>
    rw [hb] at HU
    have HU := Lib.hid HU
    have HR := Lib.hid h
    clear h hb ha
    go_enter Tryz.func31, Tryz.ntmps31
    go_wp2_with fail
    refine HU.out.mono ?_
    rintro e w1 ⟨rfl, rfl⟩
    go_wp2_with fail
    go_ret
    exact ⟨rfl, HR.out, Frm.refl _ _⟩
  | false =>
    rw [hb] at HU
    have HU := Lib.hid HU
    have c1 := h.c1
    have HF := Lib.hid (lnflush_any l b f x L w h.ln ha)
    have HR := Lib.hid h
    rw [seq_one]
    obtain ⟨c, hc⟩ : ∃ c, L.code 0 = c := ⟨_, rfl⟩
    rw [hc] at HF ⊢
    clear h hb ha hc
    go_enter Tryz.func31, Tryz.ntmps31
    go_wp2_with fail
    refine HU.out.mono ?_
    rintro e w1 ⟨rfl, rfl⟩
    go_wp2_with fail
    refine HF.out.mono ?_
    rintro e w1 ⟨rfl, h1, g1⟩
    have hR1 := HR.out.acted DV.flush rfl h1 g1
    have HD := Lib.hid (rdone_any g l b f x R _ c w1 hR1)
    have G1 := Lib.hid g1
    clear h1 g1 hR1 HF
    go_wp2_with fail
    refine HD.out.mono ?_
    rintro e w2 ⟨rfl, h2, g2⟩
    have H2 := Lib.hid (And.intro h2 (G1.out.rgL.trans g2.rgG))
    clear h2 g2 HD
    go_wp2_with fail
    go_ret
    exact ⟨rfl, H2.out⟩
set_option maxRecDepth 100000 in
set_option maxHeartbeats 4000000 in
theorem rseal_any (g l b f x gen : Nat) (R : RV) (L : LV) (w : World) (h : RgM w g l b f x R L) (ha : L.acts ≤ 900000) (hgen : gen < 4294967296) :
    Calls Tryz.prog 29 #[.pointer (some ⟨g, 0, none⟩), .int .u32 (gen : Nat)] w (RgTo g l b f x (slR R L gen) w) := by
  have HM := Lib.hid (rmade_any g l b f x R L w h)
  unfold slR
  by_cases h0 : gen = 0
  · subst h0
    rw [if_pos rfl]
    have HR := Lib.hid h
    clear h ha
    go_enter Tryz.func29, Tryz.ntmps29
    go_wp2_with fail
    refine HM.out.mono ?_
    rintro e w1 ⟨rfl, rfl⟩
    go_wp2_with fail
    go_ret
    exact ⟨rfl, HR.out, Frm.refl _ _⟩
  · rw [if_neg h0]
    have hq : ((gen : Int) == 0) = false := by rw [beq_eq_false_iff_ne]; omega
    have HU := rusable_any g l b f x R L w h
    cases hb : R.bad with
    | true =>
      rw [hb] at HU
      have HU := Lib.hid HU
      have HR := Lib.hid h
      clear h hb ha h0
      go_enter Tryz.func29, Tryz.ntmps29
      go_wp2_with fail
      refine HM.out.mono ?_
      rintro e w1 ⟨rfl, rfl⟩
      go_wp2_with fail
      refine HU.out.mono ?_
      rintro e w1 ⟨rfl, rfl⟩
      go_wp2_with fail
      go_ret
      exact ⟨rfl, HR.out, Frm.refl _ _⟩
    | false =>
      rw [hb] at HU
      have HU := Lib.hid HU
      have c1 := h.c1
      have c2 := h.c2
      have hbd := h.bound
      have hrk := h.rok
      have HH := Lib.hid (fun W => header_any gen W hgen)
      have hE : L.D.writeE (R.at_ : Int) (hdB gen) = 0 := writeE_ok (by omega) (by have := hrk.hi; have := hrk.lo; omega) (by rw [hdB_len]; omega)
      have HW : Hid (∀ W, Frm (fun _ => False) w W → Calls Tryz.prog 16 #[.pointer (some ⟨l, 0, none⟩), .int .i64 (R.at_ : Nat), .string (bs (hdB gen))] W fun e w' => e = .returned (.int .i64 (L.code 0 : Nat)) ∧ LnM w' l b f x (L.act (wrD R.at_ (hdB gen) L.D)) ∧ Frm (LnX l f x) W w') := Lib.hid fun W gW => by
        have := lwrite_any l b f x L (R.at_ : Int) (hdB gen) W (h.ln.keepF gW) (by omega) (by unfold Z64; omega) (by rw [hdB_len]; omega)
        rw [hE] at this
        exact this
      have HR := Lib.hid h
      have HA := Lib.hid (And.intro ha (And.intro hrk hb))
      rw [LV.seq_cons]
      clear h ha h0 hrk hE
      obtain ⟨hd, hhd⟩ : ∃ hd, hdB gen = hd := ⟨_, rfl⟩
      rw [hhd] at HH HW ⊢
      obtain ⟨at_, hat⟩ : ∃ at_, R.at_ = at_ := ⟨_, rfl⟩
      rw [hat] at c2 HW hbd ⊢
      have HHD := Lib.hid (And.intro hhd hat)
      clear hhd hat
      have hcode := L.code_or
      obtain ⟨c, hc⟩ : ∃ c, L.code 0 = c := ⟨_, rfl⟩
      rw [hc] at HW hcode ⊢
      clear hc
      go_enter Tryz.func29, Tryz.ntmps29
      go_wp2_with fail
      refine HM.out.mono ?_
      rintro e w1 ⟨rfl, rfl⟩
      go_wp2_with fail
      refine HU.out.mono ?_
      rintro e w1 ⟨rfl, rfl⟩
      go_upto_region 6 with fail
      refine wp_region_pend 10 2 (fun w' => w'.cell? ⟨g, 1, none⟩ = some (.pointer (some ⟨l, 0, none⟩)) ∧ w'.cell? ⟨g, 2, none⟩ = some (.int .i64 (at_ : Nat)) ∧ Frm (fun _ => False) w w') (fun _ => True) (.pointer (some ⟨g, 0, none⟩)) (by kernel_rfl) rfl rfl (by kernel_rfl) rfl (by kernel_rfl) (by kernel_rfl) (by kernel_rfl) (fun _ _ => trivial) ⟨c1, c2, (Frm.refl _ w).drew⟩ ⟨by rfl, fun w _ => by go_simp⟩ ?_
      try simp only [Act.put, List.setIfInBounds_toArray, List.set_cons_zero, List.set_cons_succ]
      repeat' first
        | (refine CanonL.skip (by rfl) ?_; (try simp only [Act.put, List.setIfInBounds_toArray, List.set_cons_zero, List.set_cons_succ]))
        | (refine CanonL.callQ (by rfl) (by rfl) ?_ HH ?_ ?_; (focus (intro w; go_simp; (try (with_reducible rfl)); done)); (focus (rintro w ww hs gg; exact ⟨dFrm_cell gg hs.1, dFrm_cell gg hs.2.1, hs.2.2.trans gg⟩)); (try simp only [Act.put, List.setIfInBounds_toArray, List.set_cons_zero, List.set_cons_succ]))
        | (refine CanonL.val (v := ?_) (by rfl) ?_ ?_; rotate_left 1; (focus (intro w hSw; (try dsimp only at hSw); go_simp; (try (with_reducible rfl)); done)); (try simp only [Act.put, List.setIfInBounds_toArray, List.set_cons_zero, List.set_cons_succ]))
      refine CanonL.done ?_
      intro w9 hS9
      obtain ⟨_, _, g9⟩ := hS9
      have HW9 := Lib.hid (HW.out w9 g9)
      have G9 := Lib.hid g9
      clear g9 HW c1 c2
      refine ⟨_, rfl, ?_⟩
      refine OpOK.callK (by rfl) (by go_simp) (HW9.out.mono ?_)
      rintro e w1 ⟨rfl, h1, g1⟩
      refine ⟨_, rfl, trivial, ?_⟩
      have hR1 := (HR.out.keepF G9.out).acted (wrD at_ hd) (writeTo_n _ _ _) h1 g1
      have HD := Lib.hid (rdone_any g l b f x R _ c w1 hR1)
      have G1 := Lib.hid ((G9.out.mono (fun _ _ h => h.elim : ∀ k, k < w.heap.size → False → LnX l f x k)).trans g1)
      clear h1 g1 hR1 HW9 G9
      refine wpTail.cons rfl rfl (fun K hK => ?_)
      unfold Oper.wp execOp
      go_simp
      with_reducible refine HD.out.mono ?_
      rintro e w2 ⟨rfl, h2, g2⟩
      have H2 := Lib.hid (And.intro h2 (G1.out.rgL.trans g2.rgG))
      clear h2 g2 HD
      refine hK _ _ ?_
      clear hK K
      try simp only [Act.put, List.setIfInBounds_toArray, List.set_cons_zero, List.set_cons_succ]
      refine wpTail.cons rfl rfl (fun K hK => ?_)
      unfold Oper.wp execOp
      go_simp
      refine hK _ _ ?_
      clear hK K
      try simp only [Act.put, List.setIfInBounds_toArray, List.set_cons_zero, List.set_cons_succ]
      refine wpTail.done ?_
      rcases hcode with rfl | rfl
      · have hR2 := H2.out.1
        have HFL := rflush13_any g l b f x _ _ w2 hR2 (by have := (LV.act_same L (wrD at_ hd L.D)).2.1; have := HA.out.1; omega)
        have e1 : flR { R with bad := errB 0 } (L.act (wrD at_ hd L.D)) = ({ R with bad := errB ((L.act (wrD at_ hd L.D)).seq [DV.flush]).2 }, ((L.act (wrD at_ hd L.D)).seq [DV.flush]).1, ((L.act (wrD at_ hd L.D)).seq [DV.flush]).2) := rfl
        rw [e1] at HFL
        have HFL := Lib.hid HFL
        clear hR2 e1
        go_wp2_with fail
        refine HFL.out.mono ?_
        rintro e w3 ⟨rfl, h3, g3⟩
        have H3 := Lib.hid (And.intro h3 (H2.out.2.trans g3))
        clear h3 g3 HFL H2
        go_wp2_with fail
        go_ret
        obtain ⟨_, hat⟩ := HHD.out
        subst hat
        exact ⟨rfl, H3.out⟩
      · go_wp2_with fail
        go_ret
        obtain ⟨_, hat⟩ := HHD.out
        subst hat
        exact ⟨rfl, H2.out⟩
end Go.Proofs.YtdhnidmeeocajaaGreat
end
section
namespace Go.Proofs.YtdhnidmeeocajaaGreat
open Go.RowKit Go.Shelf

def fmtR (L : LV) (q m : Int) : LV × Nat := if rgC L.D.n q m = 0 then L.seq (fmtA q.toNat m.toNat) else (L, rgC L.D.n q m)
def FmtTo (l b f x : Nat) (L : LV) (q m : Int) (w : World) (e : Ending) (w' : World) : Prop :=
  ∃ v, e = .returned (.tuple #[v, .int .i64 ((fmtR L q m).2 : Nat)]) ∧ LnM w' l b f x (fmtR L q m).1 ∧ Frm (LnX l f x) w w' ∧
    ((fmtR L q m).2 = 0 → ∃ g, v = .pointer (some ⟨g, 0, none⟩) ∧ w.heap.size ≤ g ∧ RgM w' g l b f x ⟨q.toNat, m.toNat, 0, false⟩ (fmtR L q m).1) ∧ ((fmtR L q m).2 ≠ 0 → v = .pointer none)
theorem seq_wrs (L : LV) (p : Nat) (B : List (List UInt8)) (k : Nat) : (L.seq ((wrs p B).take k)).1.P = L.P ∧ (L.seq ((wrs p B).take k)).1.acts ≤ L.acts + k ∧ (L.seq ((wrs p B).take k)).1.cs = L.cs ∧ (L.seq ((wrs p B).take k)).1.D.n = L.D.n := by
  have h := LV.seq_same ((wrs p B).take k) L (fun F hF => wrs_n p B F (List.mem_of_mem_take hF))
  have hl : ((wrs p B).take k).length ≤ k := by rw [List.length_take]; omega
  exact ⟨h.1, by have := h.2.1; omega, h.2.2.2.1, h.2.2.2.2⟩
set_option maxRecDepth 100000 in
set_option maxHeartbeats 4000000 in
theorem format_any (l b f x : Nat) (L : LV) (q m : Int) (w : World) (h : LnM w l b f x L) (ha : L.acts ≤ 900000) (hq : Z64 q) (hm : Z64 m) (hP : L.cs.length = 0 ∨ ∀ k, L.P k → k < w.heap.size) :
    Calls Tryz.prog 13 #[.pointer (some ⟨l, 0, none⟩), .int .i64 q, .int .i64 m] w (FmtTo l b f x L q m w) := by
  have HC := rcheck_any l b f x L q m w h hq hm
  unfold FmtTo
  by_cases hc : rgC L.D.n q m = 0
  · have hr : fmtR L q m = L.seq (fmtA q.toNat m.toNat) := by unfold fmtR; rw [if_pos hc]
    rw [hr]
    rw [hc] at HC
    obtain ⟨h1, h2, h3, h4⟩ := rgC_ok hc
    have hN := h.dev.ok.hi
    obtain ⟨A, rfl⟩ := Int.eq_ofNat_of_zero_le h1
    obtain ⟨n, rfl⟩ := Int.eq_ofNat_of_zero_le (show 0 ≤ m by omega)
    rw [Int.toNat_natCast, Int.toNat_natCast]
    have hn : 2 ≤ n ∧ A + n ≤ L.D.n := by omega
    have hB : A ≤ 2048 ∧ n ≤ 2048 := by omega
    have HC := Lib.hid HC
    have HL := Lib.hid (And.intro h (And.intro ha (And.intro hn hP)))
    clear h hr hc h1 h2 h3 h4 hN hq hm ha hP hn
    obtain ⟨B, hBB⟩ : ∃ B, List.replicate n ([] : List UInt8) = B := ⟨_, rfl⟩
    have hBl : B.length = n := by rw [← hBB]; exact List.length_replicate
    have hBe : ∀ k (hk : k < B.length), B[k] = [] := fun k hk => by subst hBB; simp
    have hfm : L.seq (fmtA A n) = if (L.seq (wrs A B)).2 = 0 then (L.seq (wrs A B)).1.seq [DV.flush] else L.seq (wrs A B) := by unfold fmtA; rw [hBB, LV.seq_append]
    have HB := Lib.hid (And.intro hBl (And.intro hBe hfm))
    clear hBB hBl hBe hfm
    go_enter Tryz.func13, Tryz.ntmps13
    go_wp2_with fail
    refine HC.out.mono ?_
    rintro e w1 ⟨rfl, rfl⟩
    go_wp2_with fail
    go_loopw [21] (fun i wr => ∃ k : Nat, k ≤ n ∧ i = .int .i64 k ∧ (L.seq ((wrs A B).take k)).2 = 0 ∧ LnM wr l b f x (L.seq ((wrs A B).take k)).1 ∧ Frm (LnX l f x) w wr) (fun i _ => n - (intOf i).toNat)
    case atStart => exact ⟨0, Nat.zero_le _, rfl, rfl, HL.out.1, Frm.refl _ _⟩
    case round =>
      obtain ⟨k, hk, rfl, hz, hln, gr⟩ := hrel
      have hs := seq_wrs L A B k
      obtain ⟨p, hp⟩ : ∃ p, (L.seq ((wrs A B).take k)).1 = p := ⟨_, rfl⟩
      by_cases hlt : k < n
      · have hkl : k < (wrs A B).length := by rw [wrs_len, HB.out.1]; exact hlt
        have hnx := LV.seq_next L (wrs A B) k hkl hz
        rw [wrs_at, HB.out.2.1] at hnx
        rw [hp] at hnx hs hln
        have hE : p.D.writeE ((A : Int) + (k : Int)) [] = 0 := writeE_ok (by omega) (by rw [hs.2.2.2]; have := HL.out.2.2.1.2; omega) (by simp)
        have HW := lwrite_any l b f x p ((A : Int) + (k : Int)) [] wr hln (by have := HL.out.2.1; have := hs.2.1; omega) (by unfold Z64; omega) (by simp)
        rw [hE] at HW
        have hwd : p.D.writeTo ((A : Int) + (k : Int)) [] = wrD (A + k) [] p.D := by unfold wrD; rw [Int.natCast_add]
        rw [hwd] at HW
        have hcode := p.code_or
        obtain ⟨c, hcc⟩ : ∃ c, p.code 0 = c := ⟨_, rfl⟩
        rw [hcc] at HW hcode hnx
        have HW := Lib.hid HW
        have HNX := Lib.hid hnx
        have GR := Lib.hid (And.intro gr (And.intro hs hkl))
        have hw64 : IntKind.i64.wrap ((A : Int) + (k : Int)) = (A : Int) + (k : Int) := IntWalk.i64_in _ (by omega)
        have hki : (k : Int) < (n : Int) := by omega
        clear hnx hln hE hwd hcc gr hs hp hz hkl
        rcases hcode with rfl | rfl
        · go_wp2_with fail
          refine HW.out.mono ?_
          rintro e w1 ⟨rfl, h1, g1⟩
          have H1 := Lib.hid (And.intro h1 (GR.out.1.trans g1))
          clear h1 g1 HW
          go_wp2_with fail
          go_roundw
          case rel => exact ⟨k + 1, by omega, by go_num, by rw [HNX.out], by rw [HNX.out]; exact H1.out.1, H1.out.2⟩
          case measure => simp [intOf]; omega
        · have hst : L.seq (fmtA A n) = (p.act (wrD (A + k) [] p.D), 8) := by
            rw [HB.out.2.2, LV.seq_stop L (wrs A B) (k + 1) (by rw [HNX.out]; show (8 : Nat) ≠ 0; decide), HNX.out, if_neg (show ¬ (8 : Nat) = 0 by decide)]
          have HS := Lib.hid hst
          clear hst
          go_wp2_with fail
          refine HW.out.mono ?_
          rintro e w1 ⟨rfl, h1, g1⟩
          have H1 := Lib.hid (And.intro h1 (GR.out.1.trans g1))
          clear h1 g1 HW
          go_wp2_with fail
          go_ret2
          rw [HS.out]
          exact ⟨_, rfl, H1.out.1, H1.out.2, (fun e => by cases e), fun _ => rfl⟩
      · obtain rfl : k = n := by omega
        have hfull : (wrs A B).take k = wrs A B := List.take_of_length_le (by rw [wrs_len, HB.out.1]; exact Nat.le_refl _)
        rw [hfull] at hz hp hs hln
        have hst := HB.out.2.2
        rw [if_pos hz, seq_one] at hst
        rw [hp] at hs hln hst
        have HF := lnflush_any l b f x p wr hln (by have := HL.out.2.1; have := hs.2.1; omega)
        have hcode := p.code_or
        obtain ⟨c, hcc⟩ : ∃ c, p.code 0 = c := ⟨_, rfl⟩
        rw [hcc] at HF hcode hst
        have HF := Lib.hid HF
        have GR := Lib.hid (And.intro gr hs)
        have HS := Lib.hid hst
        clear hst hln hcc gr hs hp hz hfull
        rcases hcode with rfl | rfl
        · go_wp2_with fail
          refine HF.out.mono ?_
          rintro e w1 ⟨rfl, h1, g1⟩
          have hsub : (k : Int) - 1 = ((k - 1 : Nat) : Int) := by have := HL.out.2.2.1.1; omega
          have hw64 : IntKind.i64.wrap ((k - 1 : Nat) : Int) = ((k - 1 : Nat) : Int) := IntWalk.i64_in _ (by omega)
          obtain ⟨k1, hk1⟩ : ∃ k1, k - 1 = k1 := ⟨_, rfl⟩
          rw [hk1] at hsub hw64
          have H1 := Lib.hid (And.intro h1 (And.intro (GR.out.1.trans g1) hk1))
          clear h1 g1 HF hk1
          go_wp2_with fail
          go_ret2
          rw [HS.out]
          have g2 : Frm (fun _ => False) w1 (w1.alloc (.cells #[.pointer (some ⟨w1.heap.size, 0, none⟩), .pointer (some ⟨l, 0, none⟩), .int .i64 (A : Nat), .int .i64 (k1 : Nat), .int .i64 0, .bool false] 64)) := (Frm.refl _ w1).alloc _
          have b2 := Blk.alloc w1 64 #[.pointer (some ⟨w1.heap.size, 0, none⟩), .pointer (some ⟨l, 0, none⟩), .int .i64 (A : Nat), .int .i64 (k1 : Nat), .int .i64 0, .bool false]
          obtain ⟨hl1, g1, hk1⟩ := H1.out
          have hlt1 := hl1.lt
          have hsz := g1.size
          have hsm := GR.out.2
          have hac := LV.act_same p p.D.flush
          have hD : (p.act p.D.flush).D.n = L.D.n := (LV.act_n p p.D.flush rfl).trans hsm.2.2.2
          obtain ⟨_, _, hn2, hP⟩ := HL.out
          subst hk1
          refine ⟨_, rfl, hl1.keepF g2, g1.trans (g2.mono fun _ _ h => h.elim), fun _ => ⟨w1.heap.size, rfl, hsz, ⟨b2, hl1.keepF g2, ⟨by omega, by omega, by omega, by omega⟩, ?_, ⟨hn2.1, by show A + k ≤ (p.act p.D.flush).D.n; omega, by show 0 + 1 ≤ k; omega⟩⟩⟩, fun h => absurd rfl h⟩
          show (p.act p.D.flush).cs.length = 0 ∨ ∀ k, (p.act p.D.flush).P k → k ≠ w1.heap.size
          rw [hac.2.2.2, hac.1, hsm.2.2.1, hsm.1]
          exact hP.imp id fun q j hj => by have := q j hj; omega
        · go_wp2_with fail
          refine HF.out.mono ?_
          rintro e w1 ⟨rfl, h1, g1⟩
          have H1 := Lib.hid (And.intro h1 (GR.out.1.trans g1))
          clear h1 g1 HF
          go_wp2_with fail
          go_ret2
          rw [HS.out]
          exact ⟨_, rfl, H1.out.1, H1.out.2, (fun e => by cases e), fun _ => rfl⟩
  · have hr : fmtR L q m = (L, rgC L.D.n q m) := by unfold fmtR; rw [if_neg hc]
    have h2 : rgC L.D.n q m = 2 := by
      unfold rgC at hc ⊢
      split
      · rfl
      · rename_i hn
        rw [if_neg hn] at hc
        exact absurd rfl hc
    rw [hr, h2]
    rw [h2] at HC
    have HC := Lib.hid HC
    have H := Lib.hid h
    clear h hr hc ha hq hm hP h2
    go_enter Tryz.func13, Tryz.ntmps13
    go_wp2_with fail
    refine HC.out.mono ?_
    rintro e w1 ⟨rfl, rfl⟩
    go_wp2_with fail
    go_ret2
    exact ⟨_, rfl, H.out, Frm.refl _ _, (fun e => by cases e), fun _ => rfl⟩
end Go.Proofs.YtdhnidmeeocajaaGreat
end
section
namespace Go.Proofs.YtdhnidmeeocajaaGreat
open Go.RowKit

section
variable {n : Nat} {P : Program} {ops : Array Oper} {Q : Exit → Act → World → Prop}
theorem upon_wide {o : Oper} {a : Act} {next : Act → World → Prop} {r : Result Next} (h : o.upon P a next Q r) : o.uponIn Fence.wide n P a next Q r := by
  cases r with
  | ok x w' =>
    cases x <;> simp only [Oper.upon, Oper.uponIn] at h ⊢
    all_goals first
      | exact h
      | exact h.elim
      | exact ⟨fun hd => by simp [Fence.wide] at hd, callsIn_wide.2 h⟩
      | exact ⟨fun hd => by simp [Fence.wide] at hd, fun c cs _ => let ⟨v, w', q, s⟩ := h c cs; ⟨v, w', q, stepsIn_wide.2 s⟩⟩
  | halt x w' => cases x <;> exact h
theorem wpOp_wide (hq : ¬ LetsOut Q) {i : Nat} {a : Act} {w : World} {K : Act → World → Prop} (h : wpOp P ops Q i K a w) : wpOpIn Fence.wide n P ops Q i K a w := by
  unfold wpOpIn wpOp at *
  split
  · simpa [*] using h
  · rename_i o ho
    simp only [ho] at h
    split
    · rename_i hw
      simp only [hw, if_true] at h
      rcases h with h | h
      · exact ⟨fun _ _ => trivial, upon_wide h⟩
      · exact absurd h.2 hq
    · rename_i hw
      simp only [hw] at h
      exact ⟨fun _ _ => trivial, h⟩
theorem wpAny_wide (hq : ¬ LetsOut Q) {md : Region.Mode} : ∀ (fuel : Nat) (listed : Array Bool) (a : Act) (w : World), wpAny P md ops Q fuel listed a w → wpAnyIn Fence.wide n P md ops Q fuel listed a w := by
  intro fuel
  induction fuel with
  | zero => intro listed a w h; exact h
  | succ fuel ih =>
    intro listed a w h
    exact ⟨h.1, fun i hi => wpOpIn_mono (fun a w => ih _ a w) (wpOp_wide hq (h.2 i hi))⟩
/-- THE RULES: in a round a region is walked as in a function. -/
theorem wpIn_region_plain {l id : Nat} {a : Act} {w : World} (hm : P.follows .mixedOrders = true) (hd : ops.all noDefer = true) (hq : ¬ LetsOut Q) (h : wpAny P .any ops Q ops.size (Array.replicate ops.size false) a w.drew) : (Code.region id ops true).wpIn (Fence.wide.inRound l) n P Q a w :=
  wpIn_region_round rfl hm hd (wpAny_wide hq _ _ _ _ h)
/-- A condition, but nothing at a panic. -/
def calmR (Q : Exit → Act → World → Prop) : Exit → Act → World → Prop
  | .panic _, _, _ => False
  | e, a, w => Q e a w
theorem calmR_le {Q : Exit → Act → World → Prop} (e : Exit) (a : Act) (w : World) (h : calmR Q e a w) : Q e a w := by
  cases e <;> first | exact h | exact (h : False).elim
theorem calmR_ret {Q : Exit → Act → World → Prop} {a : Act} {w : World} (h : Q .ret a w) : calmR Q .ret a w := h
end
end Go.Proofs.YtdhnidmeeocajaaGreat
end
