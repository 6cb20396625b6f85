/- What the laws' own tells and awake answer; Append of a region that is none. No condition. -/
import Derived.Test.YtfbaleomhghjeaaGreatRgW
import Derived.Test.YtfbaleomhghjeaaGreatLnD
section
namespace Go.Proofs.YtfbaleomhghjeaaGreat
open Go.RowKit Go.Shelf
attribute [local go_sem] Oper.semAt_some

theorem Frm.toNewR {w0 w1 w2 : World} {g l f x : Nat} (h : Frm (fun _ => False) w0 w1) (g2 : Frm (RgX g l f x) w1 w2) (ho : w0.heap.size ≤ g ∧ w0.heap.size ≤ l ∧ w0.heap.size ≤ f ∧ w0.heap.size ≤ x) : Frm (fun _ => False) w0 w2 := h.next g2 fun k hk hX => by unfold RgX LnX at hX; omega
theorem rg_neqn (w : World) (a : Addr) : (binOp .neq 37 (.pointer (some a)) (.pointer none)).run Tryz.prog w = .ok (.bool true) w := by
  have h : ∀ d : Nat, (Op.equalIn (d + 1) 37 (.pointer (some a)) (.pointer none)).run Tryz.prog w = .ok false w := fun d => by
    simp [Op.equalIn, run_underlying Tryz.underlying37]
  simp only [binOp]
  simp [Op.equal, Op.maxDepth, h 9999]
theorem rg_eqn (w : World) (a : Addr) : (binOp .eql 37 (.pointer (some a)) (.pointer none)).run Tryz.prog w = .ok (.bool false) w := by
  have h : ∀ d : Nat, (Op.equalIn (d + 1) 37 (.pointer (some a)) (.pointer none)).run Tryz.prog w = .ok false w := fun d => by
    simp [Op.equalIn, run_underlying Tryz.underlying37]
  simp only [binOp]
  simp [Op.equal, Op.maxDepth, h 9999]
set_option maxRecDepth 100000 in
set_option maxHeartbeats 4000000 in
theorem tells_true (l b f x : Nat) (L : LV) (gen : Nat) (gs : List (List UInt8)) (v : Value) (w : World) (h : LnM w l b f x L) (hv : Strs w v gs) (hr : rdR L 64 64 = (gen, gs, 0)) :
    Calls Tryz.prog 26 #[.pointer (some ⟨l, 0, none⟩), .int .u32 (gen : Nat), v] w fun e w' => e = .returned (.bool true) ∧ Frm (fun _ => False) w w' := by
  have HR := rgread_any l b f x L 64 64 w h (by unfold Z64; decide) (by unfold Z64; decide)
  rw [hr] at HR
  unfold ReadTo at HR
  have HR := Lib.hid HR
  obtain ⟨a, cap, rfl, hc1, hc2⟩ := hv.slice
  unfold maxLen at hc2
  have HV := Lib.hid hv
  clear h hr hv
  go_enter Tryz.func26, Tryz.ntmps26
  go_wp2_with fail
  refine HR.out.mono ?_
  rintro e w1 ⟨v2, rfl, hn⟩
  obtain ⟨a2, cap2, rfl, hd1, hd2⟩ := (OwnS.reads hn.own).slice
  unfold maxLen at hd2
  have HN := Lib.hid hn
  clear hn HR
  go_wp2_with fail
  go_loopw [10] (fun i wr => ∃ k : Nat, k ≤ gs.length ∧ i = .int .i64 k ∧ Frm (fun _ => False) w1 wr) (fun i _ => gs.length - (intOf i).toNat)
  case atStart => exact ⟨0, Nat.zero_le _, rfl, Frm.refl _ _⟩
  case round =>
    obtain ⟨k, hk, rfl, gr⟩ := hrel
    by_cases hlt : k < gs.length
    · obtain ⟨g, off, rfl, _, c0⟩ := Strs.at (HV.out.keepF (HN.out.frm.trans gr)) k hlt
      obtain ⟨g2, off2, rfl, _, c1⟩ := Strs.at ((OwnS.reads HN.out.own).keepF gr) k hlt
      obtain ⟨s, hs⟩ : ∃ s, gs[k] = s := ⟨_, rfl⟩
      rw [hs] at c0 c1
      have hki : (k : Int) < (gs.length : Int) := by omega
      have hq : ((bs s).toList != (bs s).toList) = false := by simp
      clear hs
      go_wp2_with fail
      refine wp_region_canon (fun W => W.cell? ⟨g, off + k, none⟩ = some (.string (bs s)) ∧ W.cell? ⟨g2, off2 + k, none⟩ = some (.string (bs s)) ∧ Frm (fun _ => False) wr W) (by kernel_rfl) rfl (by kernel_rfl) (by kernel_rfl) (⟨c0, c1, (Frm.refl _ wr).drew⟩) ?_
      repeat' first
        | (refine CanonL.skip (by rfl) ?_; (try simp only [Act.put, List.setIfInBounds_toArray, List.set_cons_zero, List.set_cons_succ]))
        | (refine CanonL.val (v := ?_) (by rfl) ?_ ?_; rotate_left 1; (focus (intro w hSw; (try dsimp only at hSw); go_simp; (try (with_reducible rfl)); done)); (try simp only [Act.put, List.setIfInBounds_toArray, List.set_cons_zero, List.set_cons_succ]))
      refine CanonL.done ?_
      intro w9 hS9
      have G9 := Lib.hid (gr.trans hS9.2.2)
      clear hS9 c0 c1
      go_wp2_with fail
      go_roundw
      case rel => exact ⟨k + 1, by omega, by go_num, G9.out⟩
      case measure => simp [intOf]; omega
    · obtain rfl : k = gs.length := by omega
      have G9 := Lib.hid (HN.out.frm.trans gr)
      clear gr
      go_wp2_with fail
      go_ret
      exact ⟨rfl, G9.out⟩
end Go.Proofs.YtfbaleomhghjeaaGreat
end
section
namespace Go.Proofs.YtfbaleomhghjeaaGreat
open Go.RowKit Go.Shelf

/-- One more group, over a line that no act cuts. -/
theorem apR_uc {R : RV} {L : LV} {gs : List (List UInt8)} {fc gen : Nat} (h : StR R L gs fc gen) (hu : Uc L) (s : List UInt8) (hf : needs s.length ≤ R.left) :
    ∃ L', apR R L s = (⟨R.at_, R.n, R.used + needs s.length, false⟩, L', 0) ∧ StR ⟨R.at_, R.n, R.used + needs s.length, false⟩ L' (gs ++ [s]) fc gen ∧ Uc L' ∧ L'.acts = L.acts + needs s.length ∧ L'.cs = L.cs ∧ L'.P = L.P ∧ L'.D = (wrs (R.at_ + 1 + R.used) (blks (R.used + 1) s)).foldl (fun D F => F D) L.D := by
  have hs := hu.seq (wrs (R.at_ + 1 + R.used) (blks (R.used + 1) s))
  rcases apR_st h s with ⟨h1, _⟩ | ⟨_, L', h1, h2, h3⟩ | ⟨_, L', h1, h2, _⟩
  · omega
  · subst h2
    exact ⟨_, h1, h3, hs.2.1, by rw [hs.2.2.1, wrs_len, blks_len], hs.2.2.2.1, hs.2.2.2.2.1, hs.2.2.2.2.2⟩
  · rw [hs.1] at h2; cases h2
theorem flR_uc {R : RV} {L : LV} {gs : List (List UInt8)} {fc gen : Nat} (h : StR R L gs fc gen) (hu : Uc L) :
    ∃ L', flR R L = (R, L', 0) ∧ StR R L' gs (nb gs) gen ∧ Uc L' ∧ L'.acts = L.acts + 1 ∧ L'.cs = L.cs ∧ L'.P = L.P ∧ L'.D = L.D.flush := by
  have hs := hu.seq [DV.flush]
  rcases flR_st h with ⟨L', h1, h2, h3⟩ | ⟨L', h1, h2, _⟩
  · subst h2
    exact ⟨_, h1, h3, hs.2.1, hs.2.2.1, hs.2.2.2.1, hs.2.2.2.2.1, hs.2.2.2.2.2⟩
  · rw [hs.1] at h2; cases h2
theorem slR_uc {R : RV} {L : LV} {gs : List (List UInt8)} {fc gen : Nat} (h : StR R L gs fc gen) (hu : Uc L) {g : Nat} (hg0 : g ≠ 0) (hg : g < 4294967296) :
    ∃ L', slR R L g = (R, L', 0) ∧ StR R L' gs (nb gs) g ∧ Uc L' ∧ L'.acts = L.acts + 2 ∧ L'.cs = L.cs ∧ L'.P = L.P ∧ L'.D = (wrD R.at_ (hdB g) L.D).flush := by
  have hs := hu.seq [wrD R.at_ (hdB g), DV.flush]
  rcases slR_st h hg0 hg with ⟨L', h1, h2, h3⟩ | ⟨L', h1, h2, _⟩
  · subst h2
    exact ⟨_, h1, h3, hs.2.1, hs.2.2.1, hs.2.2.2.1, hs.2.2.2.2.1, hs.2.2.2.2.2⟩
  · rw [hs.1] at h2; cases h2
/-- A Format of the 64 blocks from 64 on, of a device of 256. -/
theorem fmtR_64 {L : LV} (hu : Uc L) (hok : L.D.ok) (hn : L.D.n = 256) :
    ∃ L', fmtR L 64 64 = (L', 0) ∧ StR ⟨64, 64, 0, false⟩ L' [] 0 0 ∧ Uc L' ∧ L'.acts = L.acts + 65 ∧ L'.cs = L.cs ∧ L'.P = L.P ∧ L'.D.n = 256 ∧ ∀ k, L'.D.read k = if 64 ≤ k ∧ k < 128 then zb else L.D.read k := by
  have h := fmtR_st (L := L) (A := 64) (n := 64) hu.1 (fun k _ => by have := hu.2; omega) hok (by decide) (by decide) (by omega)
  have h : (fmtR L 64 64).2 = 0 ∧ (fmtR L 64 64).1.acts = L.acts + 65 ∧ (fmtR L 64 64).1.cut = L.cut ∧ (fmtR L 64 64).1.cs = L.cs ∧ (fmtR L 64 64).1.P = L.P ∧ (fmtR L 64 64).1.D.n = L.D.n ∧ (∀ k, (fmtR L 64 64).1.D.read k = if 64 ≤ k ∧ k < 128 then zb else L.D.read k) ∧ StR ⟨64, 64, 0, false⟩ (fmtR L 64 64).1 [] 0 0 := h
  obtain ⟨h1, h2, h3, h4, h5, h6, h7, h8⟩ := h
  refine ⟨(fmtR L 64 64).1, by rw [← h1], h8, ⟨h8.live, by rw [h3]; exact hu.2⟩, h2, h4, h5, h6.trans hn, h7⟩
theorem new_uc : Uc (LV.new (DV.new 256) (-1) []) := ⟨rfl, by show (-1 : Int) < 0; decide⟩
/-- Of a region of 64 blocks from 64 on. -/
theorem StR.read64 {k : Nat} {bad : Bool} {L : LV} {gs : List (List UInt8)} {fc gen : Nat} (h : StR ⟨64, 64, k, bad⟩ L gs fc gen) {L' : LV} (hd : L'.down = false) (hD : L'.D = L.D) : rdR L' 64 64 = (gen, gs, 0) := h.read (by show 2 ≤ 64; decide) hd hD
set_option maxRecDepth 100000 in
set_option maxHeartbeats 4000000 in
theorem awake13_any (w : World) : Calls Tryz.prog 9 #[] w fun e w' => e = .returned (.bool true) ∧ Frm (fun _ => False) w w' := by
  have HN := Lib.hid (new256 w)
  obtain ⟨L1, f1, s1, u1, a1, c1, p1, n1, _⟩ := fmtR_64 new_uc (DV.ok_new (by decide) (by decide)) rfl
  obtain ⟨L2, f2, s2, u2, a2, c2, p2, _⟩ := apR_uc s1 u1 [97, 98] (by decide)
  have r2 := s2.read64 (L' := L2) u2.1 rfl
  have HM := Lib.hid (And.intro (And.intro f1 (And.intro a1 c1)) (And.intro f2 (And.intro a2 (And.intro r2 c2))))
  clear f1 s1 u1 a1 c1 p1 n1 f2 s2 u2 a2 c2 p2 r2
  have hne := rg_neqn
  go_enter Tryz.func9, Tryz.ntmps9
  go_wp2_with fail
  refine HN.out.mono ?_
  rintro e w1 ⟨_, rfl, b, f, x, rfl, hd, hb, hf, hx, g1⟩
  have HL := Lib.hid (lnew_any b f x _ (-1) _ [] w1 hd (by unfold Z64; decide) (nil_zs (w := w1)) (fun _ h => by cases h) (show 0 ≤ 1000000 by decide))
  have H1 := Lib.hid (And.intro (And.intro hb (And.intro hf hx)) g1)
  clear hd hb hf hx g1 HN
  go_wp2_with fail
  refine HL.out.mono ?_
  rintro e w2 ⟨_, rfl, l, rfl, hl, hlo, g2⟩
  have HF := format_any l b f x _ 64 64 w2 hl (by show 0 ≤ 900000; decide) (by unfold Z64; decide) (by unfold Z64; decide) (.inl rfl)
  unfold FmtTo at HF
  rw [HM.out.1.1] at HF
  have HF := Lib.hid HF
  have H2 := Lib.hid (And.intro (show w.heap.size ≤ l from Nat.le_trans H1.out.2.size hlo) (H1.out.2.trans g2))
  clear hl hlo g2 HL
  go_wp2_with fail
  refine HF.out.mono ?_
  rintro e w3 ⟨v, rfl, hl3, g3, hz, _⟩
  obtain ⟨g, rfl, hg, hR⟩ := hz trivial
  have hR : RgM w3 g l b f x ⟨64, 64, 0, false⟩ L1 := hR
  have H3 := Lib.hid (And.intro (show w.heap.size ≤ g from Nat.le_trans H2.out.2.size hg) (H2.out.2.toNewX g3 ⟨H2.out.1, H1.out.1.2.1, H1.out.1.2.2⟩))
  have HA := rappend_any g l b f x _ L1 [97, 98] w3 hR (by rw [HM.out.1.2.1]; decide) (by decide) (.inl (by rw [HM.out.1.2.2]; rfl))
  rw [HM.out.2.1] at HA
  unfold RgTo at HA
  have HA := Lib.hid HA
  clear hl3 g3 hz hg hR HF
  have hbs : (⟨#[97, 98]⟩ : ByteArray) = bs [97, 98] := rfl
  go_wp2_with fail
  refine HA.out.mono ?_
  rintro e w4 ⟨rfl, h4, g4⟩
  have h4 : RgM w4 g l b f x ⟨64, 64, 0 + needs ([97, 98] : List UInt8).length, false⟩ L2 := h4
  have H4 := Lib.hid (H3.out.2.toNewR g4 ⟨H3.out.1, H2.out.1, H1.out.1.2.1, H1.out.1.2.2⟩)
  have HLF := Lib.hid (rleft_any g l b f x _ L2 w4 h4)
  have HR4 := Lib.hid h4
  clear h4 g4 HA
  go_wp2_with fail
  refine HLF.out.mono ?_
  rintro e w5 ⟨rfl, g5⟩
  have hlf : ((RV.left ⟨64, 64, 0 + needs ([97, 98] : List UInt8).length, false⟩ : Nat) : Int) = 62 := rfl
  rw [hlf]
  have gS : Frm (fun _ => False) w5 (w5.alloc (.cells #[.string (bs [97, 98])] 9)) := (Frm.refl _ w5).alloc _
  have HT := Lib.hid (tells_true l b f x L2 0 [[97, 98]] _ _ (((HR4.out.ln).keepF g5).keepF gS) (rstrs_one w5 [97, 98]) HM.out.2.2.2.1)
  have H5 := Lib.hid ((H4.out.trans g5).trans gS)
  clear g5 gS HLF hlf
  go_wp2_with fail
  refine HT.out.mono ?_
  rintro e w6 ⟨rfl, g6⟩
  have H6 := Lib.hid (H5.out.trans g6)
  have HNE := Lib.hid (needs_any 59 w6 (by unfold Z64; decide))
  clear g6 HT
  go_wp2_with fail
  refine HNE.out.mono ?_
  rintro e w7 ⟨rfl, rfl⟩
  have hn59 : ((needs (59 : Int).toNat : Nat) : Int) = 2 := rfl
  rw [hn59]
  clear HNE
  go_wp2_with fail
  go_ret
  exact ⟨rfl, H6.out⟩
end Go.Proofs.YtfbaleomhghjeaaGreat
end
