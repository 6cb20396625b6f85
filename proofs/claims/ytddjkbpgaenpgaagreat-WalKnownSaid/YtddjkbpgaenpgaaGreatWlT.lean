/- What the laws' own tells and works answer. No condition. -/
import Derived.Test.YtddjkbpgaenpgaaGreatWlQ
section
namespace Go.Proofs.YtddjkbpgaenpgaaGreat
open Go.RowKit Go.Shelf

set_option maxRecDepth 100000 in
set_option maxHeartbeats 4000000 in
theorem wtells_any (b f x : Nat) (D : DV) (n s gen : Nat) (gs : List (List UInt8)) (v : Value) (w : World) (h : DevM w b f x D) (hn : D.n / 4 = n) (hr : Rest n D s gen gs) (hv : Strs w v gs) :
    Calls Tryz.prog 43 #[.pointer (some ⟨b, 0, none⟩), .int .u32 (gen : Nat), v] w fun e w' => e = .returned (.bool true) ∧ Frm (fun _ => False) w w' := by
  have HL := Lib.hid (lnew_any b f x D (-1) _ [] w h (by unfold Z64; decide) (nil_zs (w := w)) (fun _ h => by cases h) (show 0 ≤ 1000000 by decide))
  obtain ⟨a, cap, rfl, hc1, hc2⟩ := hv.slice
  unfold maxLen at hc2
  have HV := Lib.hid hv
  have HR := Lib.hid (And.intro hr hn)
  clear h hr hv hn
  go_enter Tryz.func43, Tryz.ntmps43
  go_wp2_with fail
  refine HL.out.mono ?_
  rintro e w1 ⟨_, rfl, l, rfl, hl, hlo, g1⟩
  have HO := wopen_any l b f x _ w1 hl (.inl rfl)
  have hD : (LV.new D (-1) []).D.n / 4 = n := HR.out.2
  rw [hD, HR.out.1.op (L := LV.new D (-1) []) rfl rfl] at HO
  unfold OpTo at HO
  have HO := Lib.hid HO
  have G1 := Lib.hid g1
  clear hl hlo g1 HL hD
  go_wp2_with fail
  refine HO.out.mono ?_
  rintro e w2 ⟨pv, gv, rfl, g2, h2, _⟩
  obtain ⟨q, rfl, hq, hW, hO, _⟩ := h2 trivial
  have HG := Lib.hid (wgen_any q l ⟨n, s, gen, false⟩ none w2 hW)
  obtain ⟨a2, cap2, rfl, hd1, hd2⟩ := (OwnS.reads hO).slice
  unfold maxLen at hd2
  have HN := Lib.hid (And.intro hO (G1.out.trans g2))
  have hgeq : ((gen : Int) == (gen : Int)) = true := by simp
  have hgne : ((gen : Int) != (gen : Int)) = false := by simp
  have hlne : ((gs.length : Int) != (gs.length : Int)) = false := by simp
  clear h2 hW hO g2 hq HO
  go_wp2_with fail
  refine HG.out.mono ?_
  rintro e w3 ⟨rfl, rfl⟩
  have hgg : ((WV.gen ⟨n, s, gen, false⟩ : Nat) : Int) = (gen : Int) := rfl
  rw [hgg]
  clear HG
  go_wp2_with fail
  go_loopw [10] (fun i wr => ∃ k : Nat, k ≤ gs.length ∧ i = .int .i64 k ∧ Frm (fun _ => False) w2 wr) (fun i _ => gs.length - (intOf i).toNat)
  case atStart => exact ⟨0, Nat.zero_le _, rfl, Frm.refl _ _⟩
  case round =>
    obtain ⟨k, hk, rfl, gr⟩ := hrel
    by_cases hlt : k < gs.length
    · obtain ⟨g, off, rfl, _, c0⟩ := Strs.at (HV.out.keepF (HN.out.2.trans gr)) k hlt
      obtain ⟨g2, off2, rfl, _, c1⟩ := Strs.at ((OwnS.reads HN.out.1).keepF gr) k hlt
      obtain ⟨s, hs⟩ : ∃ s, gs[k] = s := ⟨_, rfl⟩
      rw [hs] at c0 c1
      have hki : (k : Int) < (gs.length : Int) := by omega
      have hq : ((bs s).toList != (bs s).toList) = false := by simp
      clear hs
      go_wp2_with fail
      refine wp_region_canon (fun W => W.cell? ⟨g, off + k, none⟩ = some (.string (bs s)) ∧ W.cell? ⟨g2, off2 + k, none⟩ = some (.string (bs s)) ∧ Frm (fun _ => False) wr W) (by kernel_rfl) rfl (by kernel_rfl) (by kernel_rfl) (⟨c0, c1, (Frm.refl _ wr).drew⟩) ?_
      repeat' first
        | (refine CanonL.skip (by rfl) ?_; (try simp only [Act.put, List.setIfInBounds_toArray, List.set_cons_zero, List.set_cons_succ]))
        | (refine CanonL.val (v := ?_) (by rfl) ?_ ?_; rotate_left 1; (focus (intro w hSw; (try dsimp only at hSw); go_simp; (try (with_reducible rfl)); done)); (try simp only [Act.put, List.setIfInBounds_toArray, List.set_cons_zero, List.set_cons_succ]))
      refine CanonL.done ?_
      intro w9 hS9
      have G9 := Lib.hid (gr.trans hS9.2.2)
      clear hS9 c0 c1
      go_wp2_with fail
      go_roundw
      case rel => exact ⟨k + 1, by omega, by go_num, G9.out⟩
      case measure => simp [intOf]; omega
    · obtain rfl : k = gs.length := by omega
      have G9 := Lib.hid (HN.out.2.trans gr)
      clear gr
      go_wp2_with fail
      go_ret
      exact ⟨rfl, G9.out⟩
theorem WgX.notA {q g l f x k : Nat} (h : ¬ WgX q g l f x k) : k ≠ q ∧ k ≠ g ∧ ¬ LnX l f x k := ⟨fun e => h (.inl e), fun e => h (.inr (.inl e)), fun e => h (.inr (.inr e))⟩
theorem Frm.toNewW {w0 w1 w2 : World} {q g l f x : Nat} (h : Frm (fun _ => False) w0 w1) (g2 : Frm (WgX q g l f x) w1 w2) (ho : w0.heap.size ≤ q ∧ w0.heap.size ≤ g ∧ w0.heap.size ≤ l ∧ w0.heap.size ≤ f ∧ w0.heap.size ≤ x) : Frm (fun _ => False) w0 w2 := h.next g2 fun k hk hX => by unfold WgX RgX LnX at hX; omega
theorem Frm.toNewK {w0 w1 w2 : World} {q l f x : Nat} (h : Frm (fun _ => False) w0 w1) (g2 : Frm (WlX q l f x) w1 w2) (ho : w0.heap.size ≤ q ∧ w0.heap.size ≤ l ∧ w0.heap.size ≤ f ∧ w0.heap.size ≤ x) : Frm (fun _ => False) w0 w2 := h.next g2 fun k hk hX => by unfold WlX LnX at hX; omega
set_option maxRecDepth 100000 in
set_option maxHeartbeats 8000000 in
theorem wworks_any (w : World) : Calls Tryz.prog 39 #[] w fun e w' => e = .returned (.bool true) ∧ Frm (fun _ => False) w w' := by
  have HN := Lib.hid (new256 w)
  have hok : (DV.new 256).ok := DV.ok_new (by decide) (by decide)
  obtain ⟨m1, m2, m3⟩ := mk_uc (n := 64) (t := [97, 98]) new_uc hok (by decide) (by decide) (by decide) (by decide)
  have m4 := (ls_mk (LV.new (DV.new 256) (-1) []) 64 [97, 98])
  obtain ⟨⟨R1, L1, c1⟩, hp1⟩ : ∃ p, mkR (LV.new (DV.new 256) (-1) []) 64 [97, 98] = p := ⟨_, rfl⟩
  rw [hp1] at m1 m2 m3 m4
  have m1 : c1 = 0 := m1
  subst m1
  have m2 : Cm 64 L1 R1 0 1 [[97, 98]] := m2
  have m3 : Uc L1 := m3
  have m4 : Ls _ L1 _ := m4
  have m5 : needs ([99, 100] : List UInt8).length ≤ R1.left := by
    have h1 : needs ([99, 100] : List UInt8).length = 1 := rfl
    have h2 : R1.left = R1.n - 1 - R1.used := rfl
    have h3 : nb [[97, 98]] = 1 := rfl
    have := m2.rn
    have := m2.st.used
    omega
  obtain ⟨n1, n2, n3⟩ := m2.cm_uc m3 m5
  have n4 := (ls_cm R1 L1 [99, 100]).1
  obtain ⟨⟨R2, L2, c2⟩, hp2⟩ : ∃ p, cmR R1 L1 [99, 100] = p := ⟨_, rfl⟩
  rw [hp2] at n1 n2 n3 n4
  have n1 : c2 = 0 := n1
  subst n1
  have n2 : Cm 64 L2 R2 0 1 [[97, 98], [99, 100]] := n2
  have n3 : Uc L2 := n3
  have n4 : Ls _ L2 _ := n4
  have n5 : needs ([] : List UInt8).length ≤ R2.left := by
    have h1 : needs ([] : List UInt8).length = 1 := rfl
    have h2 : R2.left = R2.n - 1 - R2.used := rfl
    have h3 : nb [[97, 98], [99, 100]] = 2 := rfl
    have := n2.rn
    have := n2.st.used
    omega
  obtain ⟨o1, o2, o3⟩ := n2.cm_uc n3 n5
  obtain ⟨⟨R3, L3, c3⟩, hp3⟩ : ∃ p, cmR R2 L2 [] = p := ⟨_, rfl⟩
  have o4 := (ls_cm R2 L2 []).1
  rw [hp3] at o1 o2 o3 o4
  have o1 : c3 = 0 := o1
  subst o1
  have o2 : Cm 64 L3 R3 0 1 [[97, 98], [99, 100], []] := o2
  have o4 : Ls _ L3 _ := o4
  have HM := Lib.hid (And.intro hp1 (And.intro hp2 hp3))
  have HA := Lib.hid (And.intro m4 (And.intro n4 (And.intro o4 (And.intro m5 (And.intro n5 (And.intro m2.rn n2.rn))))))
  have HR := Lib.hid o2.rest
  clear hok m2 m3 m4 m5 n2 n3 n4 n5 o2 o3 o4 hp1 hp2 hp3
  go_enter Tryz.func39, Tryz.ntmps39
  go_wp2_with fail
  refine HN.out.mono ?_
  rintro e w1 ⟨_, rfl, b, f, x, rfl, hd, hb, hf, hx, g1⟩
  have HL := Lib.hid (lnew_any b f x _ (-1) _ [] w1 hd (by unfold Z64; decide) (nil_zs (w := w1)) (fun _ h => by cases h) (show 0 ≤ 1000000 by decide))
  have H1 := Lib.hid (And.intro (And.intro hb (And.intro hf hx)) g1)
  clear hd hb hf hx g1 HN
  go_wp2_with fail
  refine HL.out.mono ?_
  rintro e w2 ⟨_, rfl, l, rfl, hl, hlo, g2⟩
  have HK := wmake_any l b f x _ [97, 98] w2 hl (by show 0 ≤ 700000; decide) (.inl rfl)
  have hD : (LV.new (DV.new 256) (-1) []).D.n / 4 = 64 := rfl
  rw [hD, HM.out.1] at HK
  unfold MkTo at HK
  have HK := Lib.hid HK
  have H2 := Lib.hid (And.intro (show w.heap.size ≤ l from Nat.le_trans H1.out.2.size hlo) (H1.out.2.trans g2))
  have hbs1 : (⟨#[97, 98]⟩ : ByteArray) = bs [97, 98] := rfl
  clear hl hlo g2 HL hD
  go_wp2_with fail
  refine HK.out.mono ?_
  rintro e w3 ⟨pv, rfl, g3, h3, _⟩
  obtain ⟨q, g, rfl, hq, hg, hW⟩ := h3 trivial
  have hW : WlR w3 q l b f x g ⟨64, 0, 1, false⟩ R1 L1 := hW
  have H3 := Lib.hid (And.intro (show w.heap.size ≤ q from Nat.le_trans H2.out.2.size hq) (And.intro (show w.heap.size ≤ g from Nat.le_trans H2.out.2.size hg) (H2.out.2.toNewX g3 ⟨H2.out.1, H1.out.1.2.1, H1.out.1.2.2⟩)))
  have HG := Lib.hid (wgen_any q l ⟨64, 0, 1, false⟩ _ w3 hW.wl.blk)
  have HRm := Lib.hid (wroom_any q l ⟨64, 0, 1, false⟩ _ w3 hW.wl.blk (by show 2 ≤ 64; decide) (by show 64 ≤ 2048; decide))
  have hcs1 : L1.cs.length = 0 := by rw [HA.out.1.cs]; rfl
  have ha1 : L1.acts ≤ 1000 := by have := HA.out.1.acts; have h0 : (LV.new (DV.new 256) (-1) []).acts = 0 := rfl; omega
  have HC1 := wcommit_any q l b f x g ⟨64, 0, 1, false⟩ R1 L1 [99, 100] w3 hW rfl HA.out.2.2.2.1 (by decide) (by omega) (.inl hcs1)
  rw [HM.out.2.1] at HC1
  unfold CmTo at HC1
  have HC1 := Lib.hid HC1
  have HAC := Lib.hid (And.intro hcs1 ha1)
  have hbs2 : (⟨#[99, 100]⟩ : ByteArray) = bs [99, 100] := rfl
  have hbs3 : (⟨#[]⟩ : ByteArray) = bs [] := rfl
  clear g3 h3 hq hg hW HK hcs1 ha1
  go_wp2_with fail
  refine HG.out.mono ?_
  rintro e w4 ⟨rfl, rfl⟩
  have hgg : ((WV.gen ⟨64, 0, 1, false⟩ : Nat) : Int) = 1 := rfl
  rw [hgg]
  go_wp2_with fail
  refine HRm.out.mono ?_
  rintro e w4 ⟨rfl, rfl⟩
  have hrr : ((WV.room ⟨64, 0, 1, false⟩ : Nat) : Int) = 3654 := rfl
  rw [hrr]
  go_wp2_with fail
  refine HC1.out.mono ?_
  rintro e w4 ⟨rfl, g4, h4⟩
  have h4 : WlR w4 q l b f x g ⟨64, 0, 1, false⟩ R2 L2 := h4
  have H4 := Lib.hid (H3.out.2.2.toNewW g4 ⟨H3.out.1, H3.out.2.1, H2.out.1, H1.out.1.2.1, H1.out.1.2.2⟩)
  have hcs2 : L2.cs.length = 0 := by rw [HA.out.2.1.cs]; exact HAC.out.1
  have ha2 : L2.acts ≤ 2000 := by have := HA.out.2.1.acts; have := HAC.out.2; have := HA.out.2.2.2.2.2.1; omega
  have HC2 := wcommit_any q l b f x g ⟨64, 0, 1, false⟩ R2 L2 [] w4 h4 rfl HA.out.2.2.2.2.1 (by decide) (by omega) (.inl hcs2)
  rw [HM.out.2.2] at HC2
  unfold CmTo at HC2
  have HC2 := Lib.hid HC2
  clear g4 h4 hcs2 ha2 HC1 HG HRm
  go_wp2_with fail
  refine HC2.out.mono ?_
  rintro e w5 ⟨rfl, g5, h5⟩
  have h5 : WlR w5 q l b f x g ⟨64, 0, 1, false⟩ R3 L3 := h5
  have hD5 : L3.D.n / 4 = 64 := by
    have e1 := HA.out.2.2.1.n
    have e2 := HA.out.2.1.n
    have e3 := HA.out.1.n
    have e4 : (LV.new (DV.new 256) (-1) []).D.n = 256 := rfl
    omega
  have gS : Frm (fun _ => False) w5 (w5.alloc (.cells #[.string (bs [97, 98]), .string (bs [99, 100]), .string (bs [])] 9)) := (Frm.refl _ w5).alloc _
  have hS : Strs (w5.alloc (.cells #[.string (bs [97, 98]), .string (bs [99, 100]), .string (bs [])] 9)) (.slice (some ⟨w5.heap.size, 0, none⟩) 3 3) [[97, 98], [99, 100], []] :=
    OwnS.reads (Row.made w5 9 1 3 3 (strs [[97, 98], [99, 100], []]) #[.string (bs [97, 98]), .string (bs [99, 100]), .string (bs [])] rfl (Nat.le_refl _) (by unfold maxLen; decide) rfl rfl)
  have HT := Lib.hid (wtells_any b f x L3.D 64 0 1 [[97, 98], [99, 100], []] _ _ (h5.wl.ln.dev.keepF gS) hD5 HR.out hS)
  have H5 := Lib.hid ((H4.out.toNewW g5 ⟨H3.out.1, H3.out.2.1, H2.out.1, H1.out.1.2.1, H1.out.1.2.2⟩).trans gS)
  clear g5 h5 hD5 gS hS HC2
  go_wp2_with fail
  refine HT.out.mono ?_
  rintro e w6 ⟨rfl, g6⟩
  have H6 := Lib.hid (H5.out.trans g6)
  clear g6 HT
  go_wp2_with fail
  go_ret
  exact ⟨rfl, H6.out⟩
end Go.Proofs.YtddjkbpgaenpgaaGreat
end
section
namespace Go.Proofs.YtddjkbpgaenpgaaGreat
open Go.RowKit Go.Shelf

set_option maxRecDepth 100000 in
set_option maxHeartbeats 4000000 in
theorem wmake_no (p : Value) (s : ByteArray) (w : World) (h : NoLn p w) :
    Calls Tryz.prog 38 #[p, .string s] w fun e w' => e = .returned (.tuple #[.pointer none, .int .i64 1]) ∧ Frm (fun _ => False) w w' := by
  obtain ⟨w1, hw1⟩ : ∃ w1, w.alloc (.cells #[.string s] 9) = w1 := ⟨_, rfl⟩
  have g1 : Frm (fun _ => False) w w1 := by rw [← hw1]; exact (Frm.refl _ w).alloc _
  have h1 : NoLn p w1 := by
    rcases h with h | ⟨b, e, c⟩
    · exact .inl h
    · exact .inr ⟨b, e, g1.cellF c⟩
  have HO := Lib.hid (wover_no p w1 h1)
  have G1 := Lib.hid g1
  clear h h1 g1
  go_enter Tryz.func38, Tryz.ntmps38
  go_wp2_with fail
  clear hw1
  refine HO.out.mono ?_
  rintro e w2 ⟨rfl, rfl⟩
  have gS : Frm (fun _ => False) w1 (w1.alloc (.cells #[.pointer none] 73)) := (Frm.refl _ w1).alloc _
  have GS := Lib.hid (G1.out.trans gS)
  clear gS
  go_wp2_with fail
  go_ret2
  exact ⟨rfl, GS.out⟩
set_option maxRecDepth 100000 in
set_option maxHeartbeats 16000000 in
theorem wmake_full (l b f x : Nat) (L : LV) (t : List UInt8) (w : World) (h : LnM w l b f x L) (hlong : 58 * (L.D.n / 4 - 1) < t.length) :
    Calls Tryz.prog 38 #[.pointer (some ⟨l, 0, none⟩), .string (bs t)] w fun e w' => e = .returned (.tuple #[.pointer none, .int .i64 7]) ∧ Frm (fun _ => False) w w' := by
  have hmf : ∀ (fn : Fn) (first cap : Array Value) (w : World), (Instr.makeFunc fn first cap).run Tryz.prog w = .ok (.func fn first cap) w := fun _ _ _ _ => rfl
  have hN := h.dev.ok.hi
  have hNl := h.dev.ok.lo
  obtain ⟨w1, hw1⟩ : ∃ w1, w.alloc (.cells #[.string (bs t)] 9) = w1 := ⟨_, rfl⟩
  have g1 : Frm (fun _ => False) w w1 := by rw [← hw1]; exact (Frm.refl _ w).alloc _
  have z1 : w1.heap.size = w.heap.size + 1 := by rw [← hw1]; simp
  have b1 : Blk w1 w.heap.size 9 #[.string (bs t)] := by rw [← hw1]; exact Blk.alloc w _ _
  have HO := wover_any l b f x L w1 (h.keepF g1)
  obtain ⟨n, hn⟩ : ∃ n, L.D.n / 4 = n := ⟨_, rfl⟩
  have hn2 : 2 ≤ n ∧ n ≤ 512 := by omega
  rw [hn] at HO hlong
  have HO := Lib.hid HO
  have HK := Lib.hid (And.intro g1 (And.intro z1 (And.intro b1 (And.intro hn2 hlong))))
  clear h hN hNl g1 z1 b1 hn hn2 hlong
  go_enter Tryz.func38, Tryz.ntmps38
  go_wp2_with fail
  refine HO.out.mono ?_
  rintro e w2 ⟨rfl, hW, g2, z2⟩
  obtain ⟨g1, z1, b1, hn2, hlong⟩ := HK.out
  obtain ⟨w4, hw4⟩ : ∃ w4, w2.alloc (.cells #[.pointer (some ⟨w1.heap.size, 0, none⟩)] 73) = w4 := ⟨_, rfl⟩
  have g4 : Frm (fun _ => False) w2 w4 := by rw [← hw4]; exact (Frm.refl _ w2).alloc _
  have b4 : Blk w4 w2.heap.size 73 #[.pointer (some ⟨w1.heap.size, 0, none⟩)] := by rw [← hw4]; exact Blk.alloc w2 _ _
  have c4 := b4.cell 0 rfl
  obtain ⟨w5, hw5⟩ : ∃ w5, w4.alloc (.cells #[.func (.func 91) #[] #[.pointer (some ⟨w2.heap.size, 0, none⟩), .pointer (some ⟨w.heap.size, 0, none⟩)], .func (.func 93) #[.pointer (some ⟨w1.heap.size, 0, none⟩)] #[], .func (.func 94) #[] #[.pointer (some ⟨w2.heap.size, 0, none⟩), .pointer (some ⟨w.heap.size, 0, none⟩)]] 65) = w5 := ⟨_, rfl⟩
  have g5 : Frm (fun _ => False) w4 w5 := by rw [← hw5]; exact (Frm.refl _ w4).alloc _
  have b5 : Blk w5 w4.heap.size 65 #[.func (.func 91) #[] #[.pointer (some ⟨w2.heap.size, 0, none⟩), .pointer (some ⟨w.heap.size, 0, none⟩)], .func (.func 93) #[.pointer (some ⟨w1.heap.size, 0, none⟩)] #[], .func (.func 94) #[] #[.pointer (some ⟨w2.heap.size, 0, none⟩), .pointer (some ⟨w.heap.size, 0, none⟩)]] := by rw [← hw5]; exact Blk.alloc w4 _ _
  have gw5 : Frm (fun _ => False) w w5 := ((g1.trans g2).trans g4).trans g5
  have b4 := b4.keep g5 (fun h => h)
  have b1 := ((b1.keep g2 (fun h => h)).keep g4 (fun h => h)).keep g5 (fun h => h)
  have hW5 := (hW.keepF g4).keepF g5
  have hP5 := perform_any w4.heap.size [.func (.func 91) #[] #[.pointer (some ⟨w2.heap.size, 0, none⟩), .pointer (some ⟨w.heap.size, 0, none⟩)], .func (.func 93) #[.pointer (some ⟨w1.heap.size, 0, none⟩)] #[], .func (.func 94) #[] #[.pointer (some ⟨w2.heap.size, 0, none⟩), .pointer (some ⟨w.heap.size, 0, none⟩)]]
    (fun k W => W = w5 ∧ k = 0) (fun c W => W = w5 ∧ c = 7) w5 (show 3 ≤ 100 by decide) ⟨rfl, rfl⟩
    (fun k hk W hW => by
      obtain ⟨rfl, rfl⟩ := hW
      exact b5.cell 0 rfl)
    (fun k hk => by
      rcases (by simp at hk; omega : k = 0 ∨ k = 1 ∨ k = 2) with rfl | rfl | rfl
      · refine ⟨91, #[], _, _, rfl, .inl ⟨rfl, rfl⟩, fun xs W => by go_simp, fun W hW => ?_⟩
        obtain ⟨rfl, _⟩ := hW
        have := make1_any w2.heap.size w.heap.size w1.heap.size l ⟨n, 0, 0, false⟩ none t W hW5 (b4.cell 0 rfl) (b1.cell 0 rfl) hn2.1 (by show n ≤ 2048; omega)
        refine this.mono fun e W2 hq => ?_
        obtain ⟨e1', rfl⟩ := hq
        have hroom : WV.room ⟨n, 0, 0, false⟩ = 58 * (n - 1) := rfl
        rw [hroom, if_pos hlong] at e1'
        exact ⟨7, e1', fun hc => absurd hc (by decide), fun _ => ⟨rfl, rfl⟩⟩
      · exact ⟨93, _, #[], _, rfl, .inr ⟨_, rfl, rfl, rfl⟩, fun xs W => by go_simp, fun W hW => absurd hW.2 (by decide)⟩
      · exact ⟨94, #[], _, _, rfl, .inl ⟨rfl, rfl⟩, fun xs W => by go_simp, fun W hW => absurd hW.2 (by decide)⟩)
  simp only [List.length_cons, List.length_nil, Nat.reduceAdd] at hP5
  have HP := Lib.hid hP5
  have HQ := Lib.hid gw5
  clear hP5 g1 z1 b1 hn2 hlong hW g2 z2 g4 b4 g5 b5 gw5 hW5
  go_wp2_with fail
  clear hw1 hw4 hw5 c4
  with_reducible refine HP.out.mono ?_
  rintro e w6 ⟨c, rfl, hi, he⟩
  by_cases hc : c = 0
  · exact absurd (hi hc).2 (by decide)
  · obtain ⟨rfl, rfl⟩ := he hc
    clear hi he HP hc
    go_wp2_with fail
    go_ret2
    exact ⟨rfl, HQ.out⟩
theorem opR_down {L : LV} {n : Nat} (hd : L.down = true) (h2 : 2 ≤ n) (h3 : n ≤ 65536) (h4 : 2 * n ≤ L.D.n) : opR L n = (0, 0, [], 8) := by
  have r0 : rdR L ((0 * n : Nat) : Int) (n : Int) = (0, [], 8) := by
    unfold rdR
    rw [if_pos (rgC_zero h2 h3 (by omega)), if_pos hd]
  unfold opR
  rw [r0, if_pos (show (8 : Nat) ≠ 0 by decide)]
theorem opR_new {D : DV} {n : Nat} {q : Int} {cs : List Int} {P : Nat → Prop} (hF : ∀ k, D.read k = zb) (h2 : 2 ≤ n) (h3 : n ≤ 65536) (h4 : 2 * n ≤ D.n) : opR (LV.new D q cs P) n = (0, 0, [], 5) := by
  have hz : genOf zb = 0 := by decide
  have r0 : ∀ s, s = 0 ∨ s = 1 → rdR (LV.new D q cs P) ((s * n : Nat) : Int) (n : Int) = (0, D.groups (s * n) n, 0) := fun s hs => by
    have := rdR_live (L' := LV.new D q cs P) (A := s * n) (n := n) rfl h2 h3 (by show s * n + n ≤ D.n; rcases hs with rfl | rfl <;> omega)
    rw [this]
    show (genOf (D.read (s * n)), _, _) = _
    rw [hF, hz]
    rfl
  unfold opR
  rw [r0 0 (.inl rfl), r0 1 (.inr rfl), if_neg (show ¬ (0 : Nat) ≠ 0 by decide), if_neg (show ¬ (0 : Nat) ≠ 0 by decide), if_neg (show ¬ (0 : Nat) < 0 by decide), if_pos rfl]
end Go.Proofs.YtddjkbpgaenpgaaGreat
end
