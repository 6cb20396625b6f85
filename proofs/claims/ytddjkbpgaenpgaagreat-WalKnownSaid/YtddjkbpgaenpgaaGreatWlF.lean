/- What format, forget and the closures of anew answer. No condition. -/
import Derived.Test.YtddjkbpgaenpgaaGreatCanonS
import Derived.Test.YtddjkbpgaenpgaaGreatLateW
section
namespace Go.Proofs.YtddjkbpgaenpgaaGreat
open Go.RowKit Go.Shelf

theorem FmtTo.from {l b f x : Nat} {L : LV} {q m : Int} {w w1 w' : World} {e : Ending} (h : FmtTo l b f x L q m w1 e w') (g : Frm (fun _ => False) w w1) : FmtTo l b f x L q m w e w' := by
  obtain ⟨v, h1, h2, h3, h4, h5⟩ := h
  exact ⟨v, h1, h2, (g.mono fun _ _ h => h.elim).trans h3, fun hc => by
    obtain ⟨g', e1, h6, h7⟩ := h4 hc
    exact ⟨g', e1, Nat.le_trans g.size h6, h7⟩, h5⟩
set_option maxRecDepth 100000 in
set_option maxHeartbeats 4000000 in
theorem wformat_any (q l b f x : Nat) (V : WV) (rp : Option Addr) (L : LV) (s : Nat) (w : World) (h : Wlk w q l V rp) (hl : LnM w l b f x L) (hs : s ≤ 1) (hn : V.n ≤ 2048) (ha : L.acts ≤ 900000) (hP : L.cs.length = 0 ∨ ∀ k, L.P k → k < w.heap.size) :
    Calls Tryz.prog 144 #[.pointer (some ⟨q, 0, none⟩), .int .i64 (s : Nat)] w (FmtTo l b f x L ((s * V.n : Nat) : Int) (V.n : Nat) w) := by
  have c1 := Blk.cell h 1 rfl
  have c2 := Blk.cell h 2 rfl
  have hm : s * V.n ≤ 2048 := by
    rcases (by omega : s = 0 ∨ s = 1) with rfl | rfl <;> omega
  have hw1 : IntKind.i64.wrap ((s : Int) * (V.n : Int)) = ((s * V.n : Nat) : Int) := by rw [← Int.natCast_mul]; exact IntWalk.i64_in _ (by omega)
  have HF := Lib.hid (fun W (gW : Frm (fun _ => False) w W) => format_any l b f x L ((s * V.n : Nat) : Int) (V.n : Nat) W (hl.keepF gW) ha (by unfold Z64; omega) (by unfold Z64; omega) (hP.imp id fun q k hk => by have := q k hk; have := gW.size; omega))
  obtain ⟨m, hmm⟩ : ∃ m, s * V.n = m := ⟨_, rfl⟩
  obtain ⟨n, hnn⟩ : ∃ n, V.n = n := ⟨_, rfl⟩
  rw [hmm, hnn] at HF
  rw [hmm, hnn] at hw1
  rw [hmm, hnn]
  rw [hnn] at c2
  clear h hl hP hmm hnn hm
  go_enter Tryz.func144, Tryz.ntmps144
  go_upto_region 1 with fail
  refine wp_region_stage 14 4 (fun w' => w'.cell? ⟨q, 1, none⟩ = some (.pointer (some ⟨l, 0, none⟩)) ∧ w'.cell? ⟨q, 2, none⟩ = some (.int .i64 (n : Nat)) ∧ Frm (fun _ => False) w w') (by kernel_rfl) rfl rfl (by kernel_rfl) (by kernel_rfl) (by kernel_rfl) (by kernel_rfl) (⟨c1, c2, (Frm.refl _ w).drew⟩) ?_
  repeat' first
    | (refine CanonL.skip (by rfl) ?_; (try simp only [Act.put, List.setIfInBounds_toArray, List.set_cons_zero, List.set_cons_succ]))
    | (refine CanonL.val (v := ?_) (by rfl) ?_ ?_; rotate_left 1; (focus (intro w hSw; (try dsimp only at hSw); go_simp; (try (with_reducible rfl)); done)); (try simp only [Act.put, List.setIfInBounds_toArray, List.set_cons_zero, List.set_cons_succ]))
  refine CanonL.done ?_
  intro w9 hS9
  obtain ⟨_, _, g9⟩ := hS9
  refine wpOp_callD rfl rfl (by rfl) (by go_simp) ((HF.out w9 g9).mono ?_)
  intro e wb hb0
  obtain ⟨v, rfl, hb1⟩ := hb0.from g9
  have HB := Lib.hid hb1
  clear hb0 hb1 g9 HF
  refine ⟨_, rfl, ?_⟩
  simp only [Act.put, List.setIfInBounds_toArray, List.set_cons_zero, List.set_cons_succ]
  obtain ⟨c, hc⟩ : ∃ c, (fmtR L (m : Int) (n : Int)).2 = c := ⟨_, rfl⟩
  have HC := Lib.hid hc
  rw [hc]
  clear hc
  refine ⟨fun w' => w' = wb, rfl, ?_⟩
  repeat' first
    | (refine CanonL.skip (by rfl) ?_; (try simp only [Act.put, List.setIfInBounds_toArray, List.set_cons_zero, List.set_cons_succ]))
    | (refine CanonL.val (v := ?_) (by rfl) ?_ ?_; rotate_left 1; (focus (intro w hSw; (try dsimp only at hSw); go_simp; (try (with_reducible rfl)); done)); (try simp only [Act.put, List.setIfInBounds_toArray, List.set_cons_zero, List.set_cons_succ]))
  refine CanonL.done ?_
  intro w9 hS9
  obtain rfl := hS9
  go_wp2_with fail
  go_ret2
  rw [← HC.out]
  exact ⟨v, rfl, HB.out⟩
set_option maxRecDepth 100000 in
set_option maxHeartbeats 4000000 in
theorem wforget_any (q l b f x : Nat) (V : WV) (rp : Option Addr) (L : LV) (w : World) (h : Wlk w q l V rp) (hl : LnM w l b f x L) (hn : V.n ≤ 2048) (ha : L.acts ≤ 900000) (hP : L.cs.length = 0 ∨ ∀ k, L.P k → k < w.heap.size) :
    Calls Tryz.prog 93 #[.pointer (some ⟨q, 0, none⟩)] w fun e w' => e = .returned (.int .i64 ((fmtR L (V.n : Int) (V.n : Int)).2 : Nat)) ∧ LnM w' l b f x (fmtR L (V.n : Int) (V.n : Int)).1 ∧ Frm (LnX l f x) w w' := by
  have HF := wformat_any q l b f x V rp L 1 w h hl (Nat.le_refl _) hn ha hP
  rw [Nat.one_mul] at HF
  unfold FmtTo at HF
  obtain ⟨c, hc⟩ : ∃ c, (fmtR L (V.n : Int) (V.n : Int)).2 = c := ⟨_, rfl⟩
  rw [hc] at HF ⊢
  have HF := Lib.hid HF
  clear h hl hP hc
  go_enter Tryz.func93, Tryz.ntmps93
  go_wp2_with fail
  refine HF.out.mono ?_
  rintro e w1 ⟨v, rfl, h1, h2, _⟩
  have H1 := Lib.hid (And.intro h1 h2)
  clear h1 h2 HF
  go_wp2_with fail
  go_ret
  exact ⟨rfl, H1.out⟩
set_option maxHeartbeats 1000000 in
theorem anew1_any (B C g l b f x : Nat) (R : RV) (L : LV) (s : List UInt8) (w : World) (h : RgM w g l b f x R L) (c0 : w.cell? ⟨B, 0, none⟩ = some (.pointer (some ⟨g, 0, none⟩))) (c1 : w.cell? ⟨C, 0, none⟩ = some (.string (bs s))) (ha : L.acts ≤ 900000) (hs : s.length ≤ 1000000) (hP : L.cs.length = 0 ∨ ∀ k, L.P k → k < w.heap.size) :
    Calls Tryz.prog 145 #[.pointer (some ⟨B, 0, none⟩), .pointer (some ⟨C, 0, none⟩)] w (RgTo g l b f x (apR R L s) w) := by
  have HA := Lib.hid (rappend_any g l b f x R L s w h ha hs hP)
  clear h hP
  go_enter Tryz.func145, Tryz.ntmps145
  go_wp2_with fail
  refine HA.out.mono ?_
  rintro e w1 ⟨rfl, h1, h2⟩
  have H1 := Lib.hid (And.intro h1 h2)
  clear h1 h2 HA
  go_wp2_with fail
  go_ret
  exact ⟨rfl, H1.out⟩
set_option maxHeartbeats 1000000 in
theorem anew2_any (B C g l b f x gen : Nat) (R : RV) (L : LV) (w : World) (h : RgM w g l b f x R L) (c0 : w.cell? ⟨B, 0, none⟩ = some (.pointer (some ⟨g, 0, none⟩))) (c1 : w.cell? ⟨C, 0, none⟩ = some (.int .u32 (gen : Nat))) (ha : L.acts ≤ 900000) (hg : gen < 4294967296) :
    Calls Tryz.prog 146 #[.pointer (some ⟨B, 0, none⟩), .pointer (some ⟨C, 0, none⟩)] w (RgTo g l b f x (slR R L gen) w) := by
  have HA := Lib.hid (rseal_any g l b f x gen R L w h ha hg)
  clear h
  go_enter Tryz.func146, Tryz.ntmps146
  go_wp2_with fail
  refine HA.out.mono ?_
  rintro e w1 ⟨rfl, h1, h2⟩
  have H1 := Lib.hid (And.intro h1 h2)
  clear h1 h2 HA
  go_wp2_with fail
  go_ret
  exact ⟨rfl, H1.out⟩
end Go.Proofs.YtddjkbpgaenpgaaGreat
end
section
namespace Go.Proofs.YtddjkbpgaenpgaaGreat
open Go.RowKit Go.Shelf

/-- A log in memory, over its line. -/
structure WlM (w : World) (q l b f x : Nat) (V : WV) (rp : Option Addr) (L : LV) : Prop where
  blk : Wlk w q l V rp
  ln : LnM w l b f x L
  ne : q ≠ l ∧ q ≠ b ∧ q ≠ f ∧ q ≠ x
  np : L.cs.length = 0 ∨ ∀ k, L.P k → k ≠ q
  ok : V.ok L.D.n
/-- The blocks that calls on a log change, beside its region. -/
def WlX (q l f x : Nat) (k : Nat) : Prop := k = q ∨ LnX l f x k
section
variable {w w' : World} {q l b f x g : Nat} {V V' : WV} {rp : Option Addr} {L L' : LV} {R : RV}
theorem WlM.keepF (h : WlM w q l b f x V rp L) (hf : Frm (fun _ => False) w w') : WlM w' q l b f x V rp L := ⟨h.blk.keepF hf, h.ln.keepF hf, h.ne, h.np, h.ok⟩
theorem WlM.qlt (h : WlM w q l b f x V rp L) : q < w.heap.size := Blk.lt h.blk
theorem WlM.notL (h : WlM w q l b f x V rp L) : ¬ LnX l f x q := notX h.ne.1 h.ne.2.2.1 h.ne.2.2.2
/-- The line did something. -/
theorem WlM.lined (h : WlM w q l b f x V rp L) {X : Nat → Prop} (h1 : LnM w' l b f x L') (hg : Frm X w w') (hX : ¬ X q) (hP : L'.P = L.P) (hc : L'.cs = L.cs) (hn : L'.D.n = L.D.n) : WlM w' q l b f x V rp L' :=
  ⟨h.blk.keepX hg hX, h1, h.ne, by rw [hc, hP]; exact h.np, by rw [hn]; exact h.ok⟩
end
/-- What fmtR, apR, flR, slR leave of a line. -/
structure Ls (L L' : LV) (k : Nat) : Prop where
  P : L'.P = L.P
  cs : L'.cs = L.cs
  cut : L'.cut = L.cut
  n : L'.D.n = L.D.n
  acts : L'.acts ≤ L.acts + k
theorem Ls.refl (L : LV) (k : Nat) : Ls L L k := ⟨rfl, rfl, rfl, rfl, Nat.le_add_right _ _⟩
theorem Ls.trans {L L' L'' : LV} {j k : Nat} (h : Ls L L' j) (h2 : Ls L' L'' k) : Ls L L'' (j + k) := ⟨h2.P.trans h.P, h2.cs.trans h.cs, h2.cut.trans h.cut, h2.n.trans h.n, by have := h.acts; have := h2.acts; omega⟩
theorem Ls.mono {L L' : LV} {j k : Nat} (h : Ls L L' j) (hk : j ≤ k) : Ls L L' k := ⟨h.P, h.cs, h.cut, h.n, by have := h.acts; omega⟩
theorem Ls.seq (L : LV) (l : List (DV → DV)) (hn : ∀ F ∈ l, ∀ D : DV, (F D).n = D.n) : Ls L (L.seq l).1 l.length := by
  have h := LV.seq_same l L hn
  exact ⟨h.1, h.2.2.2.1, h.2.2.1, h.2.2.2.2, h.2.1⟩
theorem ls_fmt (L : LV) (A n : Nat) : Ls L (fmtR L (A : Int) (n : Int)).1 (n + 1) := by
  unfold fmtR
  split
  · rw [Int.toNat_natCast, Int.toNat_natCast]
    have := Ls.seq L (fmtA A n) (fmtA_n A n)
    rwa [fmtA_len] at this
  · exact Ls.refl _ _
theorem ls_ap (R : RV) (L : LV) (s : List UInt8) : Ls L (apR R L s).2.1 (R.n + 1) ∧ (apR R L s).1.at_ = R.at_ ∧ (apR R L s).1.n = R.n := by
  unfold apR
  split
  · exact ⟨Ls.refl _ _, rfl, rfl⟩
  split
  · exact ⟨Ls.refl _ _, rfl, rfl⟩
  · rename_i h1 h2
    have hs := Ls.seq L (wrs (R.at_ + 1 + R.used) (blks (R.used + 1) s)) (wrs_n _ _)
    have hl : (wrs (R.at_ + 1 + R.used) (blks (R.used + 1) s)).length ≤ R.n + 1 := by rw [wrs_len, blks_len]; unfold RV.left at h2; omega
    split <;> exact ⟨hs.mono hl, rfl, rfl⟩
theorem ls_fl (R : RV) (L : LV) : Ls L (flR R L).2.1 1 ∧ (flR R L).1.at_ = R.at_ ∧ (flR R L).1.n = R.n := by
  unfold flR
  split
  · exact ⟨Ls.refl _ _, rfl, rfl⟩
  · exact ⟨Ls.seq L [DV.flush] fl_n, rfl, rfl⟩
theorem ls_sl (R : RV) (L : LV) (g : Nat) : Ls L (slR R L g).2.1 2 ∧ (slR R L g).1.at_ = R.at_ ∧ (slR R L g).1.n = R.n := by
  unfold slR
  split
  · exact ⟨Ls.refl _ _, rfl, rfl⟩
  split
  · exact ⟨Ls.refl _ _, rfl, rfl⟩
  · exact ⟨Ls.seq L [wrD R.at_ (hdB g), DV.flush] (fun F hF D => by
      rcases List.mem_cons.1 hF with rfl | hF
      · exact writeTo_n D _ _
      · rw [List.mem_singleton.1 hF]; rfl), rfl, rfl⟩
theorem ls_an (L : LV) (A n gen : Nat) (t : List UInt8) : Ls L (anR L A n gen t).2.1 (2 * n + 5) ∧ (anR L A n gen t).1.at_ = A ∧ (anR L A n gen t).1.n = n := by
  have h1 := ls_fmt L A n
  have h2 := ls_ap ⟨A, n, 0, false⟩ (fmtR L (A : Int) (n : Int)).1 t
  have h3 := ls_fl (apR ⟨A, n, 0, false⟩ (fmtR L (A : Int) (n : Int)).1 t).1 (apR ⟨A, n, 0, false⟩ (fmtR L (A : Int) (n : Int)).1 t).2.1
  have h4 := ls_sl (flR (apR ⟨A, n, 0, false⟩ (fmtR L (A : Int) (n : Int)).1 t).1 (apR ⟨A, n, 0, false⟩ (fmtR L (A : Int) (n : Int)).1 t).2.1).1 (flR (apR ⟨A, n, 0, false⟩ (fmtR L (A : Int) (n : Int)).1 t).1 (apR ⟨A, n, 0, false⟩ (fmtR L (A : Int) (n : Int)).1 t).2.1).2.1 gen
  have h2' : Ls _ _ (n + 1) := h2.1
  have e1 : (apR ⟨A, n, 0, false⟩ (fmtR L (A : Int) (n : Int)).1 t).1.at_ = A ∧ (apR ⟨A, n, 0, false⟩ (fmtR L (A : Int) (n : Int)).1 t).1.n = n := h2.2
  unfold anR
  split
  · exact ⟨h1.mono (by omega), rfl, rfl⟩
  split
  · exact ⟨(h1.trans h2').mono (by omega), e1⟩
  split
  · exact ⟨((h1.trans h2').trans h3.1).mono (by omega), h3.2.1.trans e1.1, h3.2.2.trans e1.2⟩
  · exact ⟨(((h1.trans h2').trans h3.1).trans h4.1).mono (by omega), h4.2.1.trans (h3.2.1.trans e1.1), h4.2.2.trans (h3.2.2.trans e1.2)⟩
end Go.Proofs.YtddjkbpgaenpgaaGreat
end
