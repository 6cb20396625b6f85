/- What the laws' own tells and works answer. No condition. -/
import Derived.Test.YtddjkbpgaenpgaaGreatWlQ
section
namespace Go.Proofs.YtddjkbpgaenpgaaGreat
open Go.RowKit Go.Shelf

theorem wl_neqn2 (w : World) (a : Addr) : (binOp .eql 73 (.pointer (some a)) (.pointer none)).run Tryz.prog w = .ok (.bool false) w := by
  have h : ∀ d : Nat, (Op.equalIn (d + 1) 73 (.pointer (some a)) (.pointer none)).run Tryz.prog w = .ok false w := fun d => by
    simp [Op.equalIn, run_underlying Tryz.underlying73]
  simp only [binOp]
  simp [Op.equal, Op.maxDepth, h 9999]
set_option maxRecDepth 100000 in
set_option maxHeartbeats 4000000 in
theorem wtells_any (b f x : Nat) (D : DV) (n s gen : Nat) (gs : List (List UInt8)) (v : Value) (w : World) (h : DevM w b f x D) (hn : D.n / 4 = n) (hr : Rest n D s gen gs) (hv : Strs w v gs) :
    Calls Tryz.prog 43 #[.pointer (some ⟨b, 0, none⟩), .int .u32 (gen : Nat), v] w fun e w' => e = .returned (.bool true) ∧ Frm (fun _ => False) w w' := by
  have HL := Lib.hid (lnew_any b f x D (-1) _ [] w h (by unfold Z64; decide) (nil_zs (w := w)) (fun _ h => by cases h) (show 0 ≤ 1000000 by decide))
  obtain ⟨a, cap, rfl, hc1, hc2⟩ := hv.slice
  unfold maxLen at hc2
  have HV := Lib.hid hv
  have HR := Lib.hid (And.intro hr hn)
  clear h hr hv hn
  go_enter Tryz.func43, Tryz.ntmps43
  go_wp2_with fail
  refine HL.out.mono ?_
  rintro e w1 ⟨_, rfl, l, rfl, hl, hlo, g1⟩
  have HO := wopen_any l b f x _ w1 hl (.inl rfl)
  have hD : (LV.new D (-1) []).D.n / 4 = n := HR.out.2
  rw [hD, HR.out.1.op (L := LV.new D (-1) []) rfl rfl] at HO
  unfold OpTo at HO
  have HO := Lib.hid HO
  have G1 := Lib.hid g1
  clear hl hlo g1 HL hD
  go_wp2_with fail
  refine HO.out.mono ?_
  rintro e w2 ⟨pv, gv, rfl, g2, h2, _⟩
  obtain ⟨q, rfl, hq, hW, hO, _⟩ := h2 trivial
  have HG := Lib.hid (wgen_any q l ⟨n, s, gen, false⟩ none w2 hW)
  obtain ⟨a2, cap2, rfl, hd1, hd2⟩ := (OwnS.reads hO).slice
  unfold maxLen at hd2
  have HN := Lib.hid (And.intro hO (G1.out.trans g2))
  have hgeq : ((gen : Int) == (gen : Int)) = true := by simp
  have hgne : ((gen : Int) != (gen : Int)) = false := by simp
  have hlne : ((gs.length : Int) != (gs.length : Int)) = false := by simp
  clear h2 hW hO g2 hq HO
  go_wp2_with fail
  refine HG.out.mono ?_
  rintro e w3 ⟨rfl, rfl⟩
  have hgg : ((WV.gen ⟨n, s, gen, false⟩ : Nat) : Int) = (gen : Int) := rfl
  rw [hgg]
  clear HG
  go_wp2_with fail
  go_loopw [10] (fun i wr => ∃ k : Nat, k ≤ gs.length ∧ i = .int .i64 k ∧ Frm (fun _ => False) w2 wr) (fun i _ => gs.length - (intOf i).toNat)
  case atStart => exact ⟨0, Nat.zero_le _, rfl, Frm.refl _ _⟩
  case round =>
    obtain ⟨k, hk, rfl, gr⟩ := hrel
    by_cases hlt : k < gs.length
    · obtain ⟨g, off, rfl, _, c0⟩ := Strs.at (HV.out.keepF (HN.out.2.trans gr)) k hlt
      obtain ⟨g2, off2, rfl, _, c1⟩ := Strs.at ((OwnS.reads HN.out.1).keepF gr) k hlt
      obtain ⟨s, hs⟩ : ∃ s, gs[k] = s := ⟨_, rfl⟩
      rw [hs] at c0 c1
      have hki : (k : Int) < (gs.length : Int) := by omega
      have hq : ((bs s).toList != (bs s).toList) = false := by simp
      clear hs
      go_wp2_with fail
      refine wp_region_canon (fun W => W.cell? ⟨g, off + k, none⟩ = some (.string (bs s)) ∧ W.cell? ⟨g2, off2 + k, none⟩ = some (.string (bs s)) ∧ Frm (fun _ => False) wr W) (by kernel_rfl) rfl (by kernel_rfl) (by kernel_rfl) (⟨c0, c1, (Frm.refl _ wr).drew⟩) ?_
      repeat' first
        | (refine CanonL.skip (by rfl) ?_; (try simp only [Act.put, List.setIfInBounds_toArray, List.set_cons_zero, List.set_cons_succ]))
        | (refine CanonL.val (v := ?_) (by rfl) ?_ ?_; rotate_left 1; (focus (intro w hSw; (try dsimp only at hSw); go_simp; (try (with_reducible rfl)); done)); (try simp only [Act.put, List.setIfInBounds_toArray, List.set_cons_zero, List.set_cons_succ]))
      refine CanonL.done ?_
      intro w9 hS9
      have G9 := Lib.hid (gr.trans hS9.2.2)
      clear hS9 c0 c1
      go_wp2_with fail
      go_roundw
      case rel => exact ⟨k + 1, by omega, by go_num, G9.out⟩
      case measure => simp [intOf]; omega
    · obtain rfl : k = gs.length := by omega
      have G9 := Lib.hid (HN.out.2.trans gr)
      clear gr
      go_wp2_with fail
      go_ret
      exact ⟨rfl, G9.out⟩
theorem WgX.notA {q g l f x k : Nat} (h : ¬ WgX q g l f x k) : k ≠ q ∧ k ≠ g ∧ ¬ LnX l f x k := ⟨fun e => h (.inl e), fun e => h (.inr (.inl e)), fun e => h (.inr (.inr e))⟩
theorem Frm.toNewW {w0 w1 w2 : World} {q g l f x : Nat} (h : Frm (fun _ => False) w0 w1) (g2 : Frm (WgX q g l f x) w1 w2) (ho : w0.heap.size ≤ q ∧ w0.heap.size ≤ g ∧ w0.heap.size ≤ l ∧ w0.heap.size ≤ f ∧ w0.heap.size ≤ x) : Frm (fun _ => False) w0 w2 := h.next g2 fun k hk hX => by unfold WgX RgX LnX at hX; omega
set_option maxRecDepth 100000 in
set_option maxHeartbeats 8000000 in
theorem wworks_any (w : World) : Calls Tryz.prog 39 #[] w fun e w' => e = .returned (.bool true) ∧ Frm (fun _ => False) w w' := by
  have HN := Lib.hid (new256 w)
  have hok : (DV.new 256).ok := DV.ok_new (by decide) (by decide)
  obtain ⟨m1, m2, m3⟩ := mk_uc (n := 64) (t := [97, 98]) new_uc hok (by decide) (by decide) (by decide) (by decide)
  have m4 := (ls_mk (LV.new (DV.new 256) (-1) []) 64 [97, 98])
  obtain ⟨⟨R1, L1, c1⟩, hp1⟩ : ∃ p, mkR (LV.new (DV.new 256) (-1) []) 64 [97, 98] = p := ⟨_, rfl⟩
  rw [hp1] at m1 m2 m3 m4
  have m1 : c1 = 0 := m1
  subst m1
  have m2 : Cm 64 L1 R1 0 1 [[97, 98]] := m2
  have m3 : Uc L1 := m3
  have m4 : Ls _ L1 _ := m4
  have m5 : needs ([99, 100] : List UInt8).length ≤ R1.left := by
    have h1 : needs ([99, 100] : List UInt8).length = 1 := rfl
    have h2 : R1.left = R1.n - 1 - R1.used := rfl
    have h3 : nb [[97, 98]] = 1 := rfl
    have := m2.rn
    have := m2.st.used
    omega
  obtain ⟨n1, n2, n3⟩ := m2.cm_uc m3 m5
  have n4 := (ls_cm R1 L1 [99, 100]).1
  obtain ⟨⟨R2, L2, c2⟩, hp2⟩ : ∃ p, cmR R1 L1 [99, 100] = p := ⟨_, rfl⟩
  rw [hp2] at n1 n2 n3 n4
  have n1 : c2 = 0 := n1
  subst n1
  have n2 : Cm 64 L2 R2 0 1 [[97, 98], [99, 100]] := n2
  have n3 : Uc L2 := n3
  have n4 : Ls _ L2 _ := n4
  have n5 : needs ([] : List UInt8).length ≤ R2.left := by
    have h1 : needs ([] : List UInt8).length = 1 := rfl
    have h2 : R2.left = R2.n - 1 - R2.used := rfl
    have h3 : nb [[97, 98], [99, 100]] = 2 := rfl
    have := n2.rn
    have := n2.st.used
    omega
  obtain ⟨o1, o2, o3⟩ := n2.cm_uc n3 n5
  obtain ⟨⟨R3, L3, c3⟩, hp3⟩ : ∃ p, cmR R2 L2 [] = p := ⟨_, rfl⟩
  have o4 := (ls_cm R2 L2 []).1
  rw [hp3] at o1 o2 o3 o4
  have o1 : c3 = 0 := o1
  subst o1
  have o2 : Cm 64 L3 R3 0 1 [[97, 98], [99, 100], []] := o2
  have o4 : Ls _ L3 _ := o4
  have HM := Lib.hid (And.intro hp1 (And.intro hp2 hp3))
  have HA := Lib.hid (And.intro m4 (And.intro n4 (And.intro o4 (And.intro m5 (And.intro n5 (And.intro m2.rn n2.rn))))))
  have HR := Lib.hid o2.rest
  clear hok m2 m3 m4 m5 n2 n3 n4 n5 o2 o3 o4 hp1 hp2 hp3
  go_enter Tryz.func39, Tryz.ntmps39
  go_wp2_with fail
  refine HN.out.mono ?_
  rintro e w1 ⟨_, rfl, b, f, x, rfl, hd, hb, hf, hx, g1⟩
  have HL := Lib.hid (lnew_any b f x _ (-1) _ [] w1 hd (by unfold Z64; decide) (nil_zs (w := w1)) (fun _ h => by cases h) (show 0 ≤ 1000000 by decide))
  have H1 := Lib.hid (And.intro (And.intro hb (And.intro hf hx)) g1)
  clear hd hb hf hx g1 HN
  go_wp2_with fail
  refine HL.out.mono ?_
  rintro e w2 ⟨_, rfl, l, rfl, hl, hlo, g2⟩
  have HK := wmake_any l b f x _ [97, 98] w2 hl (by show 0 ≤ 700000; decide) (.inl rfl)
  have hD : (LV.new (DV.new 256) (-1) []).D.n / 4 = 64 := rfl
  rw [hD, HM.out.1] at HK
  unfold MkTo at HK
  have HK := Lib.hid HK
  have H2 := Lib.hid (And.intro (show w.heap.size ≤ l from Nat.le_trans H1.out.2.size hlo) (H1.out.2.trans g2))
  have hbs1 : (⟨#[97, 98]⟩ : ByteArray) = bs [97, 98] := rfl
  clear hl hlo g2 HL hD
  go_wp2_with fail
  refine HK.out.mono ?_
  rintro e w3 ⟨pv, rfl, g3, h3, _⟩
  obtain ⟨q, g, rfl, hq, hg, hW⟩ := h3 trivial
  have hW : WlR w3 q l b f x g ⟨64, 0, 1, false⟩ R1 L1 := hW
  have H3 := Lib.hid (And.intro (show w.heap.size ≤ q from Nat.le_trans H2.out.2.size hq) (And.intro (show w.heap.size ≤ g from Nat.le_trans H2.out.2.size hg) (H2.out.2.toNewX g3 ⟨H2.out.1, H1.out.1.2.1, H1.out.1.2.2⟩)))
  have HG := Lib.hid (wgen_any q l ⟨64, 0, 1, false⟩ _ w3 hW.wl.blk)
  have HRm := Lib.hid (wroom_any q l ⟨64, 0, 1, false⟩ _ w3 hW.wl.blk (by show 2 ≤ 64; decide) (by show 64 ≤ 2048; decide))
  have hcs1 : L1.cs.length = 0 := by rw [HA.out.1.cs]; rfl
  have ha1 : L1.acts ≤ 1000 := by have := HA.out.1.acts; have h0 : (LV.new (DV.new 256) (-1) []).acts = 0 := rfl; omega
  have HC1 := wcommit_any q l b f x g ⟨64, 0, 1, false⟩ R1 L1 [99, 100] w3 hW rfl HA.out.2.2.2.1 (by decide) (by omega) (.inl hcs1)
  rw [HM.out.2.1] at HC1
  unfold CmTo at HC1
  have HC1 := Lib.hid HC1
  have HAC := Lib.hid (And.intro hcs1 ha1)
  have hbs2 : (⟨#[99, 100]⟩ : ByteArray) = bs [99, 100] := rfl
  have hbs3 : (⟨#[]⟩ : ByteArray) = bs [] := rfl
  clear g3 h3 hq hg hW HK hcs1 ha1
  go_wp2_with fail
  refine HG.out.mono ?_
  rintro e w4 ⟨rfl, rfl⟩
  have hgg : ((WV.gen ⟨64, 0, 1, false⟩ : Nat) : Int) = 1 := rfl
  rw [hgg]
  go_wp2_with fail
  refine HRm.out.mono ?_
  rintro e w4 ⟨rfl, rfl⟩
  have hrr : ((WV.room ⟨64, 0, 1, false⟩ : Nat) : Int) = 3654 := rfl
  rw [hrr]
  go_wp2_with fail
  refine HC1.out.mono ?_
  rintro e w4 ⟨rfl, g4, h4⟩
  have h4 : WlR w4 q l b f x g ⟨64, 0, 1, false⟩ R2 L2 := h4
  have H4 := Lib.hid (H3.out.2.2.toNewW g4 ⟨H3.out.1, H3.out.2.1, H2.out.1, H1.out.1.2.1, H1.out.1.2.2⟩)
  have hcs2 : L2.cs.length = 0 := by rw [HA.out.2.1.cs]; exact HAC.out.1
  have ha2 : L2.acts ≤ 2000 := by have := HA.out.2.1.acts; have := HAC.out.2; have := HA.out.2.2.2.2.2.1; omega
  have HC2 := wcommit_any q l b f x g ⟨64, 0, 1, false⟩ R2 L2 [] w4 h4 rfl HA.out.2.2.2.2.1 (by decide) (by omega) (.inl hcs2)
  rw [HM.out.2.2] at HC2
  unfold CmTo at HC2
  have HC2 := Lib.hid HC2
  clear g4 h4 hcs2 ha2 HC1 HG HRm
  go_wp2_with fail
  refine HC2.out.mono ?_
  rintro e w5 ⟨rfl, g5, h5⟩
  have h5 : WlR w5 q l b f x g ⟨64, 0, 1, false⟩ R3 L3 := h5
  have hD5 : L3.D.n / 4 = 64 := by
    have e1 := HA.out.2.2.1.n
    have e2 := HA.out.2.1.n
    have e3 := HA.out.1.n
    have e4 : (LV.new (DV.new 256) (-1) []).D.n = 256 := rfl
    omega
  have gS : Frm (fun _ => False) w5 (w5.alloc (.cells #[.string (bs [97, 98]), .string (bs [99, 100]), .string (bs [])] 9)) := (Frm.refl _ w5).alloc _
  have hS : Strs (w5.alloc (.cells #[.string (bs [97, 98]), .string (bs [99, 100]), .string (bs [])] 9)) (.slice (some ⟨w5.heap.size, 0, none⟩) 3 3) [[97, 98], [99, 100], []] :=
    OwnS.reads (Row.made w5 9 1 3 3 (strs [[97, 98], [99, 100], []]) #[.string (bs [97, 98]), .string (bs [99, 100]), .string (bs [])] rfl (Nat.le_refl _) (by unfold maxLen; decide) rfl rfl)
  have HT := Lib.hid (wtells_any b f x L3.D 64 0 1 [[97, 98], [99, 100], []] _ _ (h5.wl.ln.dev.keepF gS) hD5 HR.out hS)
  have H5 := Lib.hid ((H4.out.toNewW g5 ⟨H3.out.1, H3.out.2.1, H2.out.1, H1.out.1.2.1, H1.out.1.2.2⟩).trans gS)
  clear g5 h5 hD5 gS hS HC2
  go_wp2_with fail
  refine HT.out.mono ?_
  rintro e w6 ⟨rfl, g6⟩
  have H6 := Lib.hid (H5.out.trans g6)
  clear g6 HT
  go_wp2_with fail
  go_ret
  exact ⟨rfl, H6.out⟩
end Go.Proofs.YtddjkbpgaenpgaaGreat
end
section
namespace Go.Proofs.YtddjkbpgaenpgaaGreat
open Go.RowKit Go.Shelf

theorem grownBy_none {w w' : World} {X : Nat → Prop} (h : w.grownBy w' (Value.slice none 0 0).ownBlock) : Frm X w w' := (Frm.refl X w).grown h (fun k _ e => by cases e)
set_option maxRecDepth 100000 in
set_option maxHeartbeats 4000000 in
theorem with_any (v : Value) (l : List (List UInt8)) (s : List UInt8) (w : World) (hv : Strs w v l) (hl : l.length ≤ 100000) :
    Calls Tryz.prog 50 #[v, .string (bs s)] w fun e w' => ∃ v', e = .returned v' ∧ OwnS w' v' (l ++ [s]) ∧ (∀ g, v'.ownBlock = some g → w.heap.size ≤ g) ∧ Frm (fun _ => False) w w' := by
  obtain ⟨v1, w1, hr1, ho1, hg1, hn1⟩ := rappend_strs w (.slice none 0 0) v [] l (OwnS.nil_ w) hv (by simp; omega)
  rw [List.nil_append] at ho1
  have g1 : Frm (fun _ => False) w w1 := grownBy_none hg1
  have hn1 : ∀ g, v1.ownBlock = some g → w.heap.size ≤ g := fun g hg => (hn1 g hg).resolve_left (fun e => by cases e)
  have gS : Frm (fun _ => False) w1 (w1.alloc (.cells #[.string (bs s)] 9)) := (Frm.refl _ w1).alloc _
  obtain ⟨v2, w2, hr2, ho2, hg2, hn2⟩ := rappend_strs (w1.alloc (.cells #[.string (bs s)] 9)) v1 (.slice (some ⟨w1.heap.size, 0, none⟩) 1 1) l [s] (ho1.keep gS (fun _ _ h => h)) (rstrs_one w1 s) (by simp; omega)
  have H1 := Lib.hid hr1
  have H2 := Lib.hid hr2
  obtain ⟨a1, cap1, hv1, _, _⟩ := (OwnS.reads ho1).slice
  subst hv1
  obtain ⟨a, cap, rfl, hc1, hc2⟩ := hv.slice
  have HE := Lib.hid (And.intro ho2 (And.intro hn1 (And.intro hn2 (And.intro hg2 (And.intro g1 gS)))))
  clear hr1 hr2 ho1 hg1 hn1 ho2 hg2 hn2 hv
  go_enter Tryz.func50, Tryz.ntmps50
  go_wp2_with (first | (at_builtin; refine Lib.wpList_append_run _ rfl _ _ _ _ rfl _ _ rfl rfl _ _ H1.out ?_) | (at_builtin; refine Lib.wpList_append_run _ rfl _ _ _ _ rfl _ _ rfl rfl _ _ H2.out ?_) | fail)
  go_ret
  obtain ⟨ho2, hn1, hn2, hg2, g1, gS⟩ := HE.out
  have hs1 := g1.size
  have hsS := gS.size
  refine ⟨v2, rfl, ho2, fun g hg => ?_, ((g1.trans gS).grown hg2 (fun k hk e => by have := hn1 k e; omega))⟩
  rcases hn2 g hg with e | e
  · exact hn1 g e
  · omega
end Go.Proofs.YtddjkbpgaenpgaaGreat
end
section
namespace Go.Proofs.YtddjkbpgaenpgaaGreat
open Go.RowKit Go.Shelf

def firstB : List UInt8 := [102, 105, 114, 115, 116]
/-- One text in new memory. -/
theorem own_one (w : World) (s : List UInt8) : OwnS (w.alloc (.cells #[.string (bs s)] 9)) (.slice (some ⟨w.heap.size, 0, none⟩) 1 1) [s] :=
  Row.made w 9 1 1 1 (strs [s]) #[.string (bs s)] rfl (Nat.le_refl _) (by unfold maxLen; decide) rfl rfl
theorem WlR.lt {w : World} {q l b f x g : Nat} {V : WV} {R : RV} {L : LV} (h : WlR w q l b f x g V R L) : q < w.heap.size ∧ g < w.heap.size ∧ l < w.heap.size ∧ f < w.heap.size ∧ x < w.heap.size := by
  have h1 := h.rg.lt
  exact ⟨h.wl.qlt, h1.1, h1.2.1, h1.2.2.2.1, h1.2.2.2.2⟩
theorem WlR.keepF {w w' : World} {q l b f x g : Nat} {V : WV} {R : RV} {L : LV} (h : WlR w q l b f x g V R L) (hf : Frm (fun _ => False) w w') : WlR w' q l b f x g V R L := ⟨h.wl.keepF hf, h.rg.keepF hf, h.gq⟩
end Go.Proofs.YtddjkbpgaenpgaaGreat
end
