/- WalKnown: the chapter's examples hold; logs that are none. No condition. -/
import Derived.Test.YtddjkbpgaenpgaaGreatWlT
namespace Go.Proofs.YtddjkbpgaenpgaaGreat
open Go.RowKit Go.Shelf

theorem seq_over {L : LV} (hd : L.down = true) (l : List (DV → DV)) (hl : 0 < l.length) : L.seq l = (L, 8) := by
  match l, hl with
  | F :: l, _ =>
    have hc : L.code 0 = 8 := by unfold LV.code; rw [if_pos (.inl hd)]
    rw [LV.seq_cons, hc, if_neg (by decide), LV.act_over _ hd]
theorem cm_over {R : RV} {L : LV} (hb : R.bad = false) (hd : L.down = true) {t : List UInt8} (ht : needs t.length ≤ R.left) : cmR R L t = (⟨R.at_, R.n, R.used, true⟩, L, 8) := by
  have h1 : apR R L t = (⟨R.at_, R.n, R.used, true⟩, L, 8) := by
    unfold apR
    rw [hb, if_neg Bool.false_ne_true, if_neg (by omega), seq_over hd _ (by rw [wrs_len, blks_len]; exact needs_pos _), if_neg (show ¬ (8 : Nat) = 0 by decide)]
  unfold cmR
  rw [h1, if_pos (show (8 : Nat) ≠ 0 by decide)]
theorem left_cm {n : Nat} {L : LV} {R : RV} {s g : Nat} {gs : List (List UInt8)} (h : Cm n L R s g gs) : R.left = n - 1 - nb gs := by
  unfold RV.left
  rw [h.rn, h.st.used]
abbrev L0k : LV := LV.new (DV.new 256) (-1) []
/-- What is done, one behind the other. -/
structure KnW (lh : List UInt8) (R1 : RV) (L1 : LV) (R2 : RV) (L2 : LV) (R3 : RV) (L3 : LV) (R4 : RV) (L4 : LV) (R5 : RV) (L5 : LV) : Prop where
  e1 : mkR L0k 64 [97, 98] = (R1, L1, 0)
  c1 : Cm 64 L1 R1 0 1 [[97, 98]]
  u1 : Uc L1
  l1 : Ls L0k L1 200
  e2 : anR L1 ((1 - 0) * 64) 64 (1 + 1) [101, 102] = (R2, L2, 0)
  c2 : Cm 64 L2 R2 1 2 [[101, 102]]
  l2 : Ls L0k L2 400
  e3 : cmR R2 L2 [103, 104] = (R3, L3, 0)
  f3 : needs ([103, 104] : List UInt8).length ≤ R2.left
  c3 : Cm 64 L3 R3 1 2 [[101, 102], [103, 104]]
  l3 : Ls L0k L3 600
  e4 : anR L3 ((1 - 1) * 64) 64 (2 + 1) lh = (R4, L4, 0)
  c4 : Cm 64 L4 R4 0 3 [lh]
  z4 : R4.left = 0
  l4 : Ls L0k L4 800
  e5 : anR L4 ((1 - 0) * 64) 64 (3 + 1) [] = (R5, L5, 0)
  c5 : Cm 64 L5 R5 1 4 [[]]
  z5 : R5.left = 62
  l5 : Ls L0k L5 1000
theorem known_chain (lh : List UInt8) (hlh : lh.length = 3654) : ∃ R1 L1 R2 L2 R3 L3 R4 L4 R5 L5, KnW lh R1 L1 R2 L2 R3 L3 R4 L4 R5 L5 := by
  obtain ⟨a1, a2, a3⟩ := mk_uc (L := L0k) (n := 64) (t := [97, 98]) new_uc (DV.ok_new (by decide) (by decide)) (by decide) (by decide) (by decide) (by decide)
  have a4 := ls_mk L0k 64 [97, 98]
  obtain ⟨⟨R1, L1, k1⟩, e1⟩ : ∃ p, mkR L0k 64 [97, 98] = p := ⟨_, rfl⟩
  rw [e1] at a1 a2 a3 a4
  have a1 : k1 = 0 := a1
  subst a1
  have a2 : Cm 64 L1 R1 0 1 [[97, 98]] := a2
  have a3 : Uc L1 := a3
  have a4 : Ls L0k L1 200 := (show Ls L0k L1 _ from a4).mono (by decide)
  obtain ⟨b1, b2, b3⟩ := a2.rest.ck_uc a3 (t := [101, 102]) (by decide) (by decide)
  have b4 := (ls_an L1 ((1 - 0) * 64) 64 (1 + 1) [101, 102]).1
  obtain ⟨⟨R2, L2, k2⟩, e2⟩ : ∃ p, anR L1 ((1 - 0) * 64) 64 (1 + 1) [101, 102] = p := ⟨_, rfl⟩
  rw [e2] at b1 b2 b3 b4
  have b1 : k2 = 0 := b1
  subst b1
  have b2 : Cm 64 L2 R2 1 2 [[101, 102]] := b2
  have b3 : Uc L2 := b3
  have b4 : Ls L1 L2 200 := (show Ls L1 L2 _ from b4).mono (by decide)
  have f3 : needs ([103, 104] : List UInt8).length ≤ R2.left := by rw [left_cm b2]; decide
  obtain ⟨c1, c2, c3⟩ := b2.cm_uc b3 f3
  have c4 := (ls_cm R2 L2 [103, 104]).1
  obtain ⟨⟨R3, L3, k3⟩, e3⟩ : ∃ p, cmR R2 L2 [103, 104] = p := ⟨_, rfl⟩
  rw [e3] at c1 c2 c3 c4
  have c1 : k3 = 0 := c1
  subst c1
  have c2 : Cm 64 L3 R3 1 2 [[101, 102], [103, 104]] := c2
  have c3 : Uc L3 := c3
  have c4 : Ls L2 L3 200 := (show Ls L2 L3 _ from c4).mono (by rw [b2.rn]; decide)
  have hn : needs lh.length + 1 ≤ 64 := by rw [hlh]; decide
  obtain ⟨d1, d2, d3⟩ := c2.rest.ck_uc c3 (t := lh) (by decide) hn
  have d4 := (ls_an L3 ((1 - 1) * 64) 64 (2 + 1) lh).1
  obtain ⟨⟨R4, L4, k4⟩, e4⟩ : ∃ p, anR L3 ((1 - 1) * 64) 64 (2 + 1) lh = p := ⟨_, rfl⟩
  rw [e4] at d1 d2 d3 d4
  have d1 : k4 = 0 := d1
  subst d1
  have d2 : Cm 64 L4 R4 0 3 [lh] := d2
  have d3 : Uc L4 := d3
  have d4 : Ls L3 L4 200 := (show Ls L3 L4 _ from d4).mono (by decide)
  obtain ⟨h1, h2, h3⟩ := d2.rest.ck_uc d3 (t := []) (by decide) (by decide)
  have h4 := (ls_an L4 ((1 - 0) * 64) 64 (3 + 1) []).1
  obtain ⟨⟨R5, L5, k5⟩, e5⟩ : ∃ p, anR L4 ((1 - 0) * 64) 64 (3 + 1) [] = p := ⟨_, rfl⟩
  rw [e5] at h1 h2 h3 h4
  have h1 : k5 = 0 := h1
  subst h1
  have h2 : Cm 64 L5 R5 1 4 [[]] := h2
  have h4 : Ls L4 L5 200 := (show Ls L4 L5 _ from h4).mono (by decide)
  refine ⟨R1, L1, R2, L2, R3, L3, R4, L4, R5, L5, e1, a2, a3, a4, e2, b2, (a4.trans b4).mono (by decide), e3, f3, c2, ((a4.trans b4).trans c4).mono (by decide), e4, d2, ?_, (((a4.trans b4).trans c4).trans d4).mono (by decide), e5, h2, ?_, ((((a4.trans b4).trans c4).trans d4).trans h4).mono (by decide)⟩
  · rw [left_cm d2]
    show 64 - 1 - (needs lh.length + 0) = 0
    rw [hlh]; decide
  · rw [left_cm h2]; decide
theorem repeatL_one14 (b : UInt8) (n : Nat) : Lib.repeatL [b] n = List.replicate n b := by
  induction n with
  | zero => rfl
  | succ n ih => simp [Lib.repeatL, ih, List.replicate_succ]
theorem xs14_any (w : World) : Calls Tryz.prog 28 #[.string ⟨#[120]⟩, .int .i64 3655] w fun e w' => e = .returned (.string (bs (List.replicate 3655 120))) ∧ Frm (fun _ => False) w w' :=
  (Tryz.strings_Repeat ⟨#[120]⟩ 3655 w (by decide) (by decide)).mono fun e w' ⟨h1, h2⟩ => ⟨by rw [h1, ← repeatL_one14]; rfl, (Frm.ofBelow h2).mono fun k hk h => by omega⟩
theorem own_two (w : World) (s t : List UInt8) : OwnS (w.alloc (.cells #[.string (bs s), .string (bs t)] 9)) (.slice (some ⟨w.heap.size, 0, none⟩) 2 2) [s, t] :=
  Row.made w 9 1 2 2 (strs [s, t]) #[.string (bs s), .string (bs t)] rfl (Nat.le_refl _) (by unfold maxLen; decide) rfl rfl
theorem oneS (w : World) (s : List UInt8) : OwnS (w.alloc (.cells #[.string (bs s)] 9)) (.slice (some ⟨w.heap.size, 0, none⟩) 1 1) [s] :=
  Row.made w 9 1 1 1 (strs [s]) #[.string (bs s)] rfl (Nat.le_refl _) (by unfold maxLen; decide) rfl rfl
theorem WlR.keepG {w w' : World} {q l b f x g : Nat} {V : WV} {R : RV} {L : LV} (h : WlR w q l b f x g V R L) (hf : Frm (fun _ => False) w w') : WlR w' q l b f x g V R L := ⟨h.wl.keepF hf, h.rg.keepF hf, h.gq⟩
theorem blow_down {L : LV} : L.blow.down = true := by
  unfold LV.blow
  split
  · assumption
  · rfl
set_option maxRecDepth 100000 in
set_option maxHeartbeats 64000000 in
theorem walKnown_any (w : World) : Calls Tryz.prog 9 #[] w fun e w' => e = .returned (.bool true) ∧ Frm (fun _ => False) w w' := by
  have HX := Lib.hid (fun W => xs14_any W)
  have HWK := Lib.hid (fun W => wworks_any W)
  have h1 : (List.replicate 3655 (120 : UInt8)).length = 3655 := List.length_replicate
  obtain ⟨lg, hlg⟩ : ∃ lg, List.replicate 3655 (120 : UInt8) = lg := ⟨_, rfl⟩
  rw [hlg] at HX h1
  clear hlg
  have hsz : (bs lg).size = 3655 := h1
  have hE : (bs lg).extract 1 3655 = bs (lg.drop 1) := by rw [← hsz]; exact bs_drop lg 1
  have hlh : (lg.drop 1).length = 3654 := by rw [List.length_drop, h1]
  obtain ⟨lh, hlhe⟩ : ∃ lh, lg.drop 1 = lh := ⟨_, rfl⟩
  rw [hlhe] at hE hlh
  clear hlhe
  obtain ⟨R1, L1, R2, L2, R3, L3, R4, L4, R5, L5, hK⟩ := known_chain lh hlh
  have K := Lib.hid hK
  have HLG := Lib.hid h1
  have HLH := Lib.hid hlh
  clear hK h1 hlh
  have hD0 : (LV.new (DV.new 256) (-1) []).D.n / 4 = 64 := rfl
  have HN := Lib.hid (new256 w)
  have hb1 : (⟨#[97, 98]⟩ : ByteArray) = bs [97, 98] := rfl
  have hb2 : (⟨#[120]⟩ : ByteArray) = bs [120] := rfl
  have hb3 : (⟨#[101, 102]⟩ : ByteArray) = bs [101, 102] := rfl
  have hb4 : (⟨#[103, 104]⟩ : ByteArray) = bs [103, 104] := rfl
  have hb5 : (⟨#[]⟩ : ByteArray) = bs [] := rfl
  go_enter Tryz.func9, Tryz.ntmps9
  go_wp2_with fail
  refine HN.out.mono ?_
  rintro e w1 ⟨_, rfl, b, f, x, rfl, hd, hb, hf, hx, g1⟩
  have HL := Lib.hid (lnew_any b f x _ (-1) _ [] w1 hd (by unfold Z64; decide) (nil_zs (w := w1)) (fun _ h => by cases h) (show 0 ≤ 1000000 by decide))
  have H1 := Lib.hid (And.intro (And.intro hb (And.intro hf hx)) g1)
  clear hd hb hf hx g1 HN
  go_wp2_with fail
  refine HL.out.mono ?_
  rintro e w2 ⟨_, rfl, l, rfl, hl, hlo, g2⟩
  have HO := wopen_any l b f x _ w2 hl (.inl rfl)
  rw [hD0, opR_new (D := DV.new 256) (n := 64) (fun _ => rfl) (by decide) (by decide) (by decide)] at HO
  unfold OpTo at HO
  have HO := Lib.hid HO
  have H2 := Lib.hid (And.intro (show w.heap.size ≤ l from Nat.le_trans H1.out.2.size hlo) (And.intro (H1.out.2.trans g2) hl))
  clear hl hlo g2 HL
  go_wp2_with fail
  refine HO.out.mono ?_
  rintro e w3 ⟨pv3, gv3, rfl, g3, _, h3⟩
  obtain ⟨rfl, rfl⟩ := h3 (show (5 : Nat) ≠ 0 by decide)
  have HK := wmake_any l b f x _ [97, 98] w3 (H2.out.2.2.keepF g3) (by show 0 ≤ 700000; decide) (.inl rfl)
  rw [hD0, K.out.e1] at HK
  unfold MkTo at HK
  have HK := Lib.hid HK
  have G3 := Lib.hid (H2.out.2.1.trans g3)
  clear g3 h3 HO
  go_wp2_with fail
  refine HK.out.mono ?_
  rintro e w4 ⟨pv, rfl, g4, h4, _⟩
  obtain ⟨q1, gr1, rfl, hq1, hg1, hW1⟩ := h4 trivial
  have hl4 : LnM w4 l b f x L1 := hW1.wl.ln
  have G4 := Lib.hid (G3.out.toNewX g4 ⟨H2.out.1, H1.out.1.2.1, H1.out.1.2.2⟩)
  have HL4 := Lib.hid hl4
  clear g4 h4 hq1 hg1 hW1 hl4 HK
  go_wp2_with fail
  refine (HWK.out _).mono ?_
  rintro e w5 ⟨rfl, g5⟩
  have hl5 := HL4.out.keepF g5
  have hD1 : L1.D.n / 4 = 64 := by rw [K.out.l1.n]; rfl
  have hcs1 : L1.cs.length = 0 := by rw [K.out.l1.cs]; rfl
  have HO := wopen_any l b f x L1 w5 hl5 (.inl hcs1)
  rw [hD1, K.out.c1.rest.op (L := L1) K.out.u1.1 rfl] at HO
  unfold OpTo at HO
  have HO := Lib.hid HO
  have G5 := Lib.hid (G4.out.trans g5)
  have HL5 := Lib.hid (And.intro hl5 (And.intro hD1 hcs1))
  clear g5 hl5 hD1 hcs1 HL4
  go_wp2_with fail
  refine HO.out.mono ?_
  rintro e w6 ⟨pv, gv, rfl, g6, h6, _⟩
  obtain ⟨q, rfl, hq, hW, hOg, _⟩ := h6 trivial
  obtain ⟨agv, capgv, rfl, _, _⟩ := (OwnS.reads hOg).slice
  have hlt := HL5.out.1.lt
  have hqw : w.heap.size ≤ q := Nat.le_trans G5.out.size hq
  have hWm : WlM w6 q l b f x ⟨64, 0, 1, false⟩ none L1 := ⟨hW, HL5.out.1.keepF g6, ⟨by omega, by omega, by omega, by omega⟩, .inl HL5.out.2.2, ⟨show 2 ≤ 64 by decide, by show 2 * 64 ≤ L1.D.n; have := HL5.out.2.1; omega, HL5.out.1.dev.ok.hi, Nat.zero_le _, show (1 : Nat) < 4294967296 by decide⟩⟩
  have HC1 := Lib.hid (wcommit_off q l ⟨64, 0, 1, false⟩ none (bs [120]) w6 hW rfl)
  have HF1 := Lib.hid (fun W (gW : Frm (fun _ => False) w6 W) => wfits_off q l ⟨64, 0, 1, false⟩ none 0 W (hW.keepF gW) rfl)
  have HCk := fun W (gW : Frm (fun _ => False) w6 W) => wcheck_any q l b f x ⟨64, 0, 1, false⟩ none L1 [101, 102] W (hWm.keepF gW) rfl (by show 2 ≤ 58 * 63; decide) (by have := K.out.l1.acts; have h0 : L0k.acts = 0 := rfl; omega) (.inl HL5.out.2.2) (show 1 + 1 < 4294967296 by decide)
  have HCk : ∀ W, Frm (fun _ => False) w6 W → Calls Tryz.prog 48 #[.pointer (some ⟨q, 0, none⟩), .string (bs [101, 102])] W (CkTo q l b f x ⟨64, 0, 1, false⟩ none (anR L1 ((1 - 0) * 64) 64 (1 + 1) [101, 102]) W) := HCk
  rw [K.out.e2] at HCk
  unfold CkTo at HCk
  have HCk := Lib.hid HCk
  have G6 := Lib.hid (And.intro (G5.out.trans g6) hqw)
  clear g6 h6 hq hW hOg hlt hqw hWm HO
  go_wp2_with fail
  refine HC1.out.mono ?_
  rintro e w7 ⟨rfl, g7⟩
  have HF7 := Lib.hid (HF1.out w7 g7)
  have G7 := Lib.hid g7
  clear g7 HC1 HF1
  go_wp2_with fail
  refine HF7.out.mono ?_
  rintro e w8 ⟨rfl, g8⟩
  have HC8 := Lib.hid (HCk.out w8 (G7.out.trans g8))
  have G8 := Lib.hid (G7.out.trans g8)
  clear g8 HF7 HCk
  go_wp2_with fail
  refine HC8.out.mono ?_
  rintro e w9 ⟨rfl, g9, h9, _⟩
  obtain ⟨g, hg9, hW9⟩ := h9 trivial
  have hW9 : WlR w9 q l b f x g ⟨64, 1, 2, false⟩ R2 L2 := hW9
  have hgw : w.heap.size ≤ g := Nat.le_trans (G6.out.1.trans G8.out).size hg9
  have HC9 := wcommit_any q l b f x g ⟨64, 1, 2, false⟩ R2 L2 [103, 104] w9 hW9 rfl K.out.f3 (by decide) (by have := K.out.l2.acts; have h0 : L0k.acts = 0 := rfl; omega) (.inl (by rw [K.out.l2.cs]; rfl))
  rw [K.out.e3] at HC9
  unfold CmTo at HC9
  have HC9 := Lib.hid HC9
  have G9 := Lib.hid (And.intro ((G6.out.1.trans G8.out).toNewK g9 ⟨G6.out.2, H2.out.1, H1.out.1.2.1, H1.out.1.2.2⟩) hgw)
  clear g9 h9 hg9 hW9 hgw HC8
  go_wp2_with fail
  refine HC9.out.mono ?_
  rintro e w10 ⟨rfl, g10, hW10⟩
  have hW10 : WlR w10 q l b f x g ⟨64, 1, 2, false⟩ R3 L3 := hW10
  have G10 := Lib.hid (G9.out.1.toNewW g10 ⟨G6.out.2, G9.out.2, H2.out.1, H1.out.1.2.1, H1.out.1.2.2⟩)
  have hD3 : L3.D.n / 4 = 64 := by rw [K.out.l3.n]; rfl
  have HW10 := Lib.hid hW10
  have HT := Lib.hid (fun (W : World) (gW : Frm (fun _ => False) w10 W) => wtells_any b f x L3.D 64 1 2 [[101, 102], [103, 104]] (.slice (some ⟨W.heap.size, 0, none⟩) 2 2) _ ((hW10.wl.ln.dev.keepF gW).keepF ((Frm.refl _ W).alloc (.cells #[.string (bs [101, 102]), .string (bs [103, 104])] 9))) hD3 K.out.c3.rest (OwnS.reads (own_two W [101, 102] [103, 104])))
  clear g10 hW10 hD3 HC9
  go_wp2_with fail
  refine (HT.out w10 (Frm.refl _ _)).mono ?_
  rintro e w11 ⟨rfl, g11⟩
  have G11 := Lib.hid (((Frm.refl (fun _ => False) w10).alloc _).trans g11)
  clear g11
  go_wp2_with fail
  refine (HX.out _).mono ?_
  rintro e w12 ⟨rfl, g12⟩
  have HC12 := Lib.hid (wcheck_full q l b f x ⟨64, 1, 2, false⟩ (some ⟨g, 0, none⟩) L3 lg w12 (HW10.out.wl.keepF (G11.out.trans g12)) rfl (by show 58 * 63 < lg.length; rw [HLG.out]; decide))
  have G12 := Lib.hid (G11.out.trans g12)
  clear g12
  go_wp2_with fail
  refine HC12.out.mono ?_
  rintro e w13 ⟨rfl, g13⟩
  have HT13 := Lib.hid (HT.out w13 (G12.out.trans g13))
  have G13 := Lib.hid (G12.out.trans g13)
  clear g13 HC12 HT
  go_wp2_with fail
  refine HT13.out.mono ?_
  rintro e w14 ⟨rfl, g14⟩
  have g14' := (G13.out.trans ((Frm.refl (fun _ => False) w13).alloc _)).trans g14
  have HCk := wcheck_any q l b f x ⟨64, 1, 2, false⟩ (some ⟨g, 0, none⟩) L3 lh w14 (HW10.out.wl.keepF g14') rfl (by show lh.length ≤ 58 * 63; rw [HLH.out]; decide) (by have := K.out.l3.acts; have h0 : L0k.acts = 0 := rfl; omega) (.inl (by rw [K.out.l3.cs]; rfl)) (show 2 + 1 < 4294967296 by decide)
  have HCk : Calls Tryz.prog 48 #[.pointer (some ⟨q, 0, none⟩), .string (bs lh)] w14 (CkTo q l b f x ⟨64, 1, 2, false⟩ (some ⟨g, 0, none⟩) (anR L3 ((1 - 1) * 64) 64 (2 + 1) lh) w14) := HCk
  rw [K.out.e4] at HCk
  unfold CkTo at HCk
  have HCk := Lib.hid HCk
  have G14 := Lib.hid (G10.out.trans g14')
  clear g14 g14' HT13
  go_wp2_with fail
  refine HCk.out.mono ?_
  rintro e w15 ⟨rfl, g15, h15, _⟩
  obtain ⟨ga, hg15, hW15⟩ := h15 trivial
  have hW15 : WlR w15 q l b f x ga ⟨64, 0, 3, false⟩ R4 L4 := hW15
  have hgw : w.heap.size ≤ ga := Nat.le_trans G14.out.size hg15
  have HF0 := fun (z : Int) (hz : Z64 z) (W : World) (gW : Frm (fun _ => False) w15 W) => wfits_any q l b f x ga ⟨64, 0, 3, false⟩ R4 L4 z W (hW15.wl.blk.keepF gW) (hW15.rg.keepF gW) rfl hz
  rw [K.out.z4] at HF0
  have HF0 := Lib.hid HF0
  have HFull := Lib.hid (fun (W : World) (gW : Frm (fun _ => False) w15 W) => wcommit_full q l b f x ga ⟨64, 0, 3, false⟩ R4 L4 [] W (hW15.keepG gW) rfl (by rw [K.out.z4]; decide) (by decide))
  have hD4 : L4.D.n / 4 = 64 := by rw [K.out.l4.n]; rfl
  have HT := Lib.hid (fun (W : World) (gW : Frm (fun _ => False) w15 W) => wtells_any b f x L4.D 64 0 3 [lh] (.slice (some ⟨W.heap.size, 0, none⟩) 1 1) _ ((hW15.wl.ln.dev.keepF gW).keepF ((Frm.refl _ W).alloc (.cells #[.string (bs lh)] 9))) hD4 K.out.c4.rest (OwnS.reads (oneS W lh)))
  have HW15 := Lib.hid hW15
  have G15 := Lib.hid (And.intro (G14.out.toNewK g15 ⟨G6.out.2, H2.out.1, H1.out.1.2.1, H1.out.1.2.2⟩) hgw)
  clear g15 h15 hg15 hW15 hgw hD4 HCk
  go_wp2_with fail
  refine (HF0.out 0 (by unfold Z64; decide) w15 (Frm.refl _ _)).mono ?_
  rintro e w16 ⟨rfl, g16⟩
  have hn0 : decide (needs (0 : Int).toNat ≤ 0) = false := by decide
  rw [hn0]
  have HF16 := Lib.hid (HF0.out (-1) (by unfold Z64; decide) w16 g16)
  have G16 := Lib.hid g16
  clear g16 HF0 hn0
  go_wp2_with fail
  refine HF16.out.mono ?_
  rintro e w17 ⟨rfl, g17⟩
  have hn1 : decide (needs (-1 : Int).toNat ≤ 0) = false := by decide
  rw [hn1]
  have HC17 := Lib.hid (HFull.out w17 (G16.out.trans g17))
  have G17 := Lib.hid (G16.out.trans g17)
  clear g17 HF16 hn1 HFull
  go_wp2_with fail
  refine HC17.out.mono ?_
  rintro e w18 ⟨rfl, g18⟩
  have HT18 := Lib.hid (HT.out w18 (G17.out.trans g18))
  have G18 := Lib.hid (G17.out.trans g18)
  clear g18 HC17 HT
  go_wp2_with fail
  refine HT18.out.mono ?_
  rintro e w19 ⟨rfl, g19⟩
  have g19' := (G18.out.trans ((Frm.refl (fun _ => False) w18).alloc _)).trans g19
  have HCk := wcheck_any q l b f x ⟨64, 0, 3, false⟩ (some ⟨ga, 0, none⟩) L4 [] w19 (HW15.out.wl.keepF g19') rfl (Nat.zero_le _) (by have := K.out.l4.acts; have h0 : L0k.acts = 0 := rfl; omega) (.inl (by rw [K.out.l4.cs]; rfl)) (show 3 + 1 < 4294967296 by decide)
  have HCk : Calls Tryz.prog 48 #[.pointer (some ⟨q, 0, none⟩), .string (bs [])] w19 (CkTo q l b f x ⟨64, 0, 3, false⟩ (some ⟨ga, 0, none⟩) (anR L4 ((1 - 0) * 64) 64 (3 + 1) []) w19) := HCk
  rw [K.out.e5] at HCk
  unfold CkTo at HCk
  have HCk := Lib.hid HCk
  have G19 := Lib.hid (G15.out.1.trans g19')
  clear g19 g19' HT18
  go_wp2_with fail
  refine HCk.out.mono ?_
  rintro e w20 ⟨rfl, g20, h20, _⟩
  obtain ⟨gb, hg20, hW20⟩ := h20 trivial
  have hW20 : WlR w20 q l b f x gb ⟨64, 1, 4, false⟩ R5 L5 := hW20
  have hgw : w.heap.size ≤ gb := Nat.le_trans G19.out.size hg20
  have HF0 := fun (z : Int) (hz : Z64 z) (W : World) (gW : Frm (fun _ => False) w20 W) => wfits_any q l b f x gb ⟨64, 1, 4, false⟩ R5 L5 z W (hW20.wl.blk.keepF gW) (hW20.rg.keepF gW) rfl hz
  rw [K.out.z5] at HF0
  have HF0 := Lib.hid HF0
  have hD5 : L5.D.n / 4 = 64 := by rw [K.out.l5.n]; rfl
  have HT := Lib.hid (fun (W : World) (gW : Frm (fun _ => False) w20 W) => wtells_any b f x L5.D 64 1 4 [[]] (.slice (some ⟨W.heap.size, 0, none⟩) 1 1) _ ((hW20.wl.ln.dev.keepF gW).keepF ((Frm.refl _ W).alloc (.cells #[.string (bs [])] 9))) hD5 K.out.c5.rest (OwnS.reads (oneS W [])))
  have HW20 := Lib.hid hW20
  have G20 := Lib.hid (And.intro (G19.out.toNewK g20 ⟨G6.out.2, H2.out.1, H1.out.1.2.1, H1.out.1.2.2⟩) hgw)
  clear g20 h20 hg20 hW20 hgw hD5 HCk
  go_wp2_with fail
  refine (HF0.out 3596 (by unfold Z64; decide) w20 (Frm.refl _ _)).mono ?_
  rintro e w21 ⟨rfl, g21⟩
  have hn0 : decide (needs (3596 : Int).toNat ≤ 62) = true := by decide
  rw [hn0]
  have HF21 := Lib.hid (HF0.out 3597 (by unfold Z64; decide) w21 g21)
  have G21 := Lib.hid g21
  clear g21 HF0 hn0
  go_wp2_with fail
  refine HF21.out.mono ?_
  rintro e w22 ⟨rfl, g22⟩
  have hn1 : decide (needs (3597 : Int).toNat ≤ 62) = false := by decide
  rw [hn1]
  have HT22 := Lib.hid (HT.out w22 (G21.out.trans g22))
  have G22 := Lib.hid (G21.out.trans g22)
  clear g22 HF21 hn1 HT
  go_wp2_with fail
  refine HT22.out.mono ?_
  rintro e w23 ⟨rfl, g23⟩
  have g23' := (G22.out.trans ((Frm.refl (fun _ => False) w22).alloc _)).trans g23
  have HW23 := Lib.hid (HW20.out.keepG g23')
  have G23 := Lib.hid (G20.out.1.trans g23')
  clear g23 g23' HT22
  -- the line is cut
  have HB := Lib.hid (lblow_any l b f x L5 w23 HW23.out.wl.ln)
  go_wp2_with fail
  refine HB.out.mono ?_
  rintro e w24 ⟨rfl, hl24, g24⟩
  have hcs5 : L5.cs.length = 0 := by rw [K.out.l5.cs]; rfl
  have hbl : L5.blow.P = L5.P ∧ L5.blow.cs = L5.cs ∧ L5.blow.D.n = L5.D.n ∧ L5.blow.acts = L5.acts := by
    unfold LV.blow
    split <;> exact ⟨rfl, rfl, rfl, rfl⟩
  have hn5 : L5.D.n = 256 := by rw [K.out.l5.n]; rfl
  have hr24 : RgM w24 gb l b f x R5 L5.blow := HW23.out.rg.lined hl24 g24 hbl.1 hbl.2.1 hbl.2.2.1
  have hm24 : WlM w24 q l b f x ⟨64, 1, 4, false⟩ (some ⟨gb, 0, none⟩) L5.blow := HW23.out.wl.lined hl24 g24 HW23.out.wl.notL hbl.1 hbl.2.1 hbl.2.2.1
  have HW24 := Lib.hid (show WlR w24 q l b f x gb ⟨64, 1, 4, false⟩ R5 L5.blow from ⟨hm24, hr24, HW23.out.gq⟩)
  have G24 := Lib.hid (G23.out.toNewX g24 ⟨H2.out.1, H1.out.1.2.1, H1.out.1.2.2⟩)
  have HO := wopen_any l b f x L5.blow w24 hl24 (.inl (by rw [hbl.2.1]; exact hcs5))
  rw [show L5.blow.D.n / 4 = 64 by rw [hbl.2.2.1, hn5], opR_down (n := 64) blow_down (by decide) (by decide) (by rw [hbl.2.2.1, hn5]; decide)] at HO
  unfold OpTo at HO
  have HO := Lib.hid HO
  have HBL := Lib.hid (And.intro hbl (And.intro hcs5 hn5))
  clear hl24 g24 hcs5 hbl hn5 hr24 hm24 HB
  go_wp2_with fail
  refine HO.out.mono ?_
  rintro e w25 ⟨pv, gv, rfl, g25, _, h25⟩
  obtain ⟨rfl, rfl⟩ := h25 (show (8 : Nat) ≠ 0 by decide)
  have HMN := Lib.hid (wmake_no (.pointer none) (bs []) w25 (.inl rfl))
  have G25 := Lib.hid g25
  clear g25 h25 HO
  go_wp2_with fail
  refine HMN.out.mono ?_
  rintro e w26 ⟨rfl, g26⟩
  have G26 := Lib.hid (G25.out.trans g26)
  clear g26 HMN
  have HL := Lib.hid (lnew_any b f x L5.blow.D (-1) _ [] w26 (HW24.out.wl.ln.dev.keepF G26.out) (by unfold Z64; decide) (nil_zs (w := w26)) (fun _ h => by cases h) (show 0 ≤ 1000000 by decide))
  go_wp2_with fail
  refine HL.out.mono ?_
  rintro e w27 ⟨_, rfl, l2, rfl, hl2, _, g27⟩
  have HMF := Lib.hid (wmake_full l2 b f x _ lg w27 hl2 (by
    show 58 * (L5.blow.D.n / 4 - 1) < lg.length
    rw [HBL.out.1.2.2.1, HBL.out.2.2, HLG.out]
    decide))
  have G27 := Lib.hid (G26.out.trans g27)
  clear hl2 g27 HL
  go_wp2_with fail
  refine HMF.out.mono ?_
  rintro e w28 ⟨rfl, g28⟩
  have hW28 := HW24.out.keepG (G27.out.trans g28)
  have hov := cm_over (R := R5) (L := L5.blow) (t := [120]) K.out.c5.st.bad blow_down (by rw [K.out.z5]; decide)
  have HC28 := wcommit_any q l b f x gb ⟨64, 1, 4, false⟩ R5 L5.blow [120] w28 hW28 rfl (by rw [K.out.z5]; decide) (by decide) (by have := K.out.l5.acts; have h0 : L0k.acts = 0 := rfl; rw [HBL.out.1.2.2.2]; omega) (.inl (by rw [HBL.out.1.2.1]; exact HBL.out.2.1))
  rw [hov] at HC28
  unfold CmTo at HC28
  have HC28 := Lib.hid HC28
  have G28 := Lib.hid (G24.out.trans (G27.out.trans g28))
  clear g28 hW28 hov HMF
  go_wp2_with fail
  refine HC28.out.mono ?_
  rintro e w29 ⟨rfl, g29, hW29⟩
  have hW29 : WlR w29 q l b f x gb ⟨64, 1, 4, true⟩ ⟨R5.at_, R5.n, R5.used, true⟩ L5.blow := hW29
  have G29 := Lib.hid (G28.out.toNewW g29 ⟨G6.out.2, G20.out.2, H2.out.1, H1.out.1.2.1, H1.out.1.2.2⟩)
  have HC29 := Lib.hid (wcheck_dead q l ⟨64, 1, 4, true⟩ (some ⟨gb, 0, none⟩) (bs [120]) w29 hW29.wl.blk rfl)
  have HW29 := Lib.hid hW29
  clear g29 hW29 HC28
  go_wp2_with fail
  refine HC29.out.mono ?_
  rintro e w30 ⟨rfl, g30⟩
  have HC30 := Lib.hid (wcommit_off q l ⟨64, 1, 4, true⟩ (some ⟨gb, 0, none⟩) (bs [120]) w30 (HW29.out.wl.blk.keepF g30) rfl)
  have G30 := Lib.hid g30
  clear g30 HC29
  go_wp2_with fail
  refine HC30.out.mono ?_
  rintro e w31 ⟨rfl, g31⟩
  have G31 := Lib.hid (G30.out.trans g31)
  clear g31 HC30
  -- logs that are none
  obtain ⟨w32, hw32⟩ : ∃ w32, w31.alloc (.cells #[.pointer none, .pointer none, .int .i64 0, .int .i64 0, .int .u32 0, .pointer none, .bool false] 91) = w32 := ⟨_, rfl⟩
  have g32 : Frm (fun _ => False) w31 w32 := by rw [← hw32]; exact (Frm.refl _ w31).alloc _
  have b32 : Blk w32 w31.heap.size 91 #[.pointer none, .pointer none, .int .i64 0, .int .i64 0, .int .u32 0, .pointer none, .bool false] := by rw [← hw32]; exact Blk.alloc w31 _ _
  have HZ := Lib.hid (fun (W : World) (gW : Frm (fun _ => False) w32 W) => (show NoWl (.pointer (some ⟨w31.heap.size, 0, none⟩)) W from .inr ⟨_, rfl, (b32.keep gW (fun h => h)).cell 0 rfl⟩))
  have hrest : Rest 64 L5.blow.D 1 4 [[]] := K.out.c5.rest.blow
  have HT := Lib.hid (wtells_any b f x L5.blow.D 64 1 4 [[]] (.slice (some ⟨w32.heap.size, 0, none⟩) 1 1) _ ((HW29.out.wl.ln.dev.keepF (G31.out.trans g32)).keepF ((Frm.refl _ w32).alloc (.cells #[.string (bs [])] 9))) (by rw [HBL.out.1.2.2.1, HBL.out.2.2]) hrest (OwnS.reads (oneS w32 [])))
  have G32 := Lib.hid (G29.out.trans (G31.out.trans g32))
  clear g32 b32 hrest
  go_wp2_with fail
  clear hw32
  refine HT.out.mono ?_
  rintro e w33 ⟨rfl, g33⟩
  have G33 := Lib.hid (((Frm.refl (fun _ => False) w32).alloc _).trans g33)
  clear g33 HT
  have HA := Lib.hid (wcommit_no none (bs []) w33 (.inl rfl))
  go_wp2_with fail
  refine HA.out.mono ?_
  rintro e w34 ⟨rfl, g34⟩
  have G34 := Lib.hid (G33.out.trans g34)
  have HB := Lib.hid (wcheck_no (some ⟨w31.heap.size, 0, none⟩) (bs []) w34 (HZ.out w34 (G33.out.trans g34)))
  clear g34 HA
  go_wp2_with fail
  refine HB.out.mono ?_
  rintro e w35 ⟨rfl, g35⟩
  have G35 := Lib.hid (G34.out.trans g35)
  have HA := Lib.hid (wgen_no (.pointer none) w35 (.inl rfl))
  have HB2 := Lib.hid (wroom_no (.pointer (some ⟨w31.heap.size, 0, none⟩)) w35 (HZ.out w35 (G34.out.trans g35)))
  have HC := Lib.hid (wfits_no (.pointer none) 0 w35 (.inl rfl))
  clear g35 HB
  go_wp2_with fail
  refine HA.out.mono ?_
  rintro e w36 ⟨rfl, rfl⟩
  go_wp2_with fail
  refine HB2.out.mono ?_
  rintro e w36 ⟨rfl, rfl⟩
  go_wp2_with fail
  refine HC.out.mono ?_
  rintro e w36 ⟨rfl, g36⟩
  have G36 := Lib.hid (G32.out.trans (G35.out.trans g36))
  clear g36 HA HB2 HC
  go_wp2_with fail
  refine (HWK.out _).mono ?_
  rintro e W ⟨rfl, gW⟩
  have hr := Lib.hid (G36.out.trans gW)
  clear gW
  go_wp2_with fail
  go_ret
  exact ⟨rfl, hr.out⟩
end Go.Proofs.YtddjkbpgaenpgaaGreat

