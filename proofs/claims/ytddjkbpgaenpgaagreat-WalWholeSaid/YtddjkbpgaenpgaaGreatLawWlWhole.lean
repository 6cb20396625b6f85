/- WalWhole: wherever the line is cut, again and again, Open tells the dump and the groups that are sure, and at most the one that was cut; asked again, it tells the same. No condition. -/
import Derived.Test.YtddjkbpgaenpgaaGreatWlX
namespace Go.Proofs.YtddjkbpgaenpgaaGreat
open Go.RowKit Go.Shelf

theorem new512 (w : World) : Calls Tryz.prog 13 #[.int .i64 512] w fun e w' => ∃ v, e = .returned v ∧ NewDev (DV.new 512) w v w' := (new_any 512 w).mono fun e w' h => by
  unfold NewTo at h
  rw [if_pos (by decide)] at h
  exact h
def Zd (z f x : Nat) (k : Nat) : Prop := k = z ∨ k = f ∨ k = x
/-- Between two lives: what is told is sure, or what may be. -/
def BtM (w : World) (z b f x k : Nat) (W : World) : Prop :=
  ∃ (D : DV) (s gn : Nat) (gs sure : List (List UInt8)) (may : Option (List (List UInt8))), DevM W b f x D ∧ D.n = 512 ∧ Rest 128 D s gn gs ∧ (gs = sure ∨ may = some gs) ∧ gn ≤ 1 + 13 * k ∧ StoM W z sure may (Zd z f x) ∧ Frm (fun _ => False) w W
theorem blow_n {L : LV} (h : ∀ k, L.D.X k = none) : L.blow.D.n = L.D.n := by
  unfold LV.blow
  split
  · rfl
  · show (L.D.crash L.cs).n = _
    rw [DV.crash_rest h]
set_option maxRecDepth 100000 in
set_option maxHeartbeats 32000000 in
theorem walWhole_any (v : Value) (LS : List LfI) (w : World) (hv : Lfs w v LS) :
    Calls Tryz.prog 8 #[v] w fun e w' => e = .returned (.bool true) ∧ Frm (fun _ => False) w w' := by
  obtain ⟨a, cap, rfl, hc1, hc2, hA⟩ := hv
  unfold maxLen at hc2
  have HWK := Lib.hid (fun W => wworks_any W)
  have HN := Lib.hid (new512 w)
  have HV := Lib.hid hA
  have hok : (DV.new 512).ok := DV.ok_new (by decide) (by decide)
  obtain ⟨m1, m2, m3⟩ := mk_uc (L := LV.new (DV.new 512) (-1) []) (n := 128) (t := firstB) new_uc hok (by decide) (by decide) (by decide) (by decide)
  have m4 := (ls_mk (LV.new (DV.new 512) (-1) []) 128 firstB)
  obtain ⟨⟨R1, L1, c1⟩, hp1⟩ : ∃ p, mkR (LV.new (DV.new 512) (-1) []) 128 firstB = p := ⟨_, rfl⟩
  rw [hp1] at m1 m2 m3 m4
  have m1 : c1 = 0 := m1
  subst m1
  have m2 : Cm 128 L1 R1 0 1 [firstB] := m2
  have m4 : Ls _ L1 _ := m4
  have HM := Lib.hid (And.intro hp1 (And.intro m2 m4))
  have hbs1 : (⟨#[102, 105, 114, 115, 116]⟩ : ByteArray) = bs firstB := rfl
  clear hA hok m2 m3 m4 hp1
  by_cases h6 : LS.length ≤ 6
  · have h6i : ¬ (6 : Int) < (LS.length : Int) := by omega
    go_enter Tryz.func8, Tryz.ntmps8
    go_wp2_with fail
    refine HN.out.mono ?_
    rintro e w1 ⟨_, rfl, b, f, x, rfl, hd, hb, hf, hx, g1⟩
    have HL := Lib.hid (lnew_any b f x _ (-1) _ [] w1 hd (by unfold Z64; decide) (nil_zs (w := w1)) (fun _ h => by cases h) (show 0 ≤ 1000000 by decide))
    have H1 := Lib.hid (And.intro (And.intro hb (And.intro hf hx)) g1)
    clear hd hb hf hx g1 HN
    go_wp2_with fail
    refine HL.out.mono ?_
    rintro e w2 ⟨_, rfl, l, rfl, hl, hlo, g2⟩
    have HK := wmake_any l b f x _ firstB w2 hl (by show 0 ≤ 700000; decide) (.inl rfl)
    have hD : (LV.new (DV.new 512) (-1) []).D.n / 4 = 128 := rfl
    rw [hD, HM.out.1] at HK
    unfold MkTo at HK
    have HK := Lib.hid HK
    have H2 := Lib.hid (And.intro (show w.heap.size ≤ l from Nat.le_trans H1.out.2.size hlo) (H1.out.2.trans g2))
    clear hl hlo g2 HL hD
    go_wp2_with fail
    refine HK.out.mono ?_
    rintro e w3 ⟨pv, rfl, g3, h3, _⟩
    obtain ⟨q, g, rfl, hq, hg, hW⟩ := h3 trivial
    have hW : WlR w3 q l b f x g ⟨128, 0, 1, false⟩ R1 L1 := hW
    have gr3 := H2.out.2.toNewX g3 ⟨H2.out.1, H1.out.1.2.1, H1.out.1.2.2⟩
    have hdv := hW.wl.ln.dev
    obtain ⟨w4, hw4⟩ : ∃ w4, w3.alloc (.cells #[.string (bs firstB)] 9) = w4 := ⟨_, rfl⟩
    have g4 : Frm (fun _ => False) w3 w4 := by rw [← hw4]; exact (Frm.refl _ w3).alloc _
    have ho4 := own_one w3 firstB
    have z4 : w4.heap.size = w3.heap.size + 1 := by rw [← hw4]; simp
    rw [hw4] at ho4
    obtain ⟨w5, hw5⟩ : ∃ w5, w4.alloc (.cells #[.slice (some ⟨w3.heap.size, 0, none⟩) 1 1, .slice none 0 0] 79) = w5 := ⟨_, rfl⟩
    have g5 : Frm (fun _ => False) w4 w5 := by rw [← hw5]; exact (Frm.refl _ w4).alloc _
    have b5 := Blk.alloc w4 79 #[.slice (some ⟨w3.heap.size, 0, none⟩) 1 1, .slice none 0 0]
    rw [hw5] at b5
    have hlt3 := hdv.lt
    have hn1 : L1.D.n = 512 := by rw [HM.out.2.2.n]; rfl
    obtain ⟨z, hz⟩ : ∃ z, w4.heap.size = z := ⟨_, rfl⟩
    rw [hz] at b5
    have hBt : BtM w z b f x 0 w5 := ⟨L1.D, 0, 1, [firstB], [firstB], none, (hdv.keepF g4).keepF g5, hn1, HM.out.2.1.rest, .inl rfl, by omega, ⟨_, _, b5, ho4.keep g5 (fun _ _ h => h), fun k hk hX => by have hk : w3.heap.size = k := Option.some.inj hk; unfold Zd at hX; omega, rfl⟩, (gr3.trans g4).trans g5⟩
    have HBt := Lib.hid (And.intro hBt (And.intro (show b < z ∧ f < z ∧ x < z by omega) (show z < w5.heap.size from b5.lt)))
    have HB1 := Lib.hid (And.intro H1.out.1 (show w.heap.size ≤ z by have := gr3.size; omega))
    clear g3 h3 hq hg hW HK g4 ho4 g5 b5 hlt3 hdv hn1 hBt gr3 H1 H2 HM z4
    go_wp2_with fail
    try rw [hz]
    clear hw4 hw5 hz
    go_loopw [7] (fun i wr => ∃ k : Nat, k ≤ LS.length ∧ i = .int .i64 (k : Nat) ∧ BtM w z b f x k wr) (fun i _ => LS.length - (intOf i).toNat)
    case atStart => exact ⟨0, Nat.zero_le _, rfl, HBt.out.1⟩
    case round =>
      obtain ⟨k, hk, rfl, hB⟩ := hrel
      have HBk := Lib.hid hB
      clear hB
      by_cases hlt : k < LS.length
      · have hki : (k : Int) < (LS.length : Int) := by omega
        obtain ⟨bb, off, lv, cv, rfl, hat⟩ := HV.out k hlt
        obtain ⟨X, hX⟩ : ∃ X, LS[k] = X := ⟨_, rfl⟩
        rw [hX] at hat
        obtain ⟨D, s, gn, gs, sure, may, p1, p2, p3, p4, p5, p6, p7⟩ := HBk.out
        have hat1 := hat.keepF p7
        obtain ⟨al, capl, rfl, hl1, hl2⟩ := hat.sl.slice
        obtain ⟨az, capz, rfl, hz1, hz2⟩ := hat.zs.slice
        unfold maxLen at hl2 hz2
        have c0 := hat1.c0
        have c1 := hat1.c1
        have c2 := hat1.c2
        have c3 := hat1.c3
        have c4 := hat1.c4
        have c5 := hat1.c5
        have HSm := Lib.hid (fun W (gW : Frm (fun _ => False) wr W) => small14_any X _ _ W (hat1.sl.keepF gW) (hat1.zs.keepF gW))
        have HAt := Lib.hid hat
        have HSt := Lib.hid (And.intro p1 (And.intro p2 (And.intro p3 (And.intro p4 (And.intro p5 (And.intro p6 p7))))))
        clear hat hat1 p1 p2 p3 p4 p5 p6 p7 hX
        unfold lfV at HSm
        obtain ⟨sb, hsb⟩ : ∃ sb, smB X = sb := ⟨_, rfl⟩
        rw [hsb] at HSm
        go_wp2_with fail
        refine (HSm.out wr (Frm.refl _ _)).mono ?_
        rintro e w4 ⟨rfl, g4⟩
        have HG4 := Lib.hid g4
        clear HSm c0 c1 c2 c3 c4 c5 g4
        cases sb with
        | false =>
          go_wp2_with fail
          refine (HWK.out _).mono ?_
          rintro e w5 ⟨rfl, g5⟩
          have G5 := Lib.hid ((HSt.out.2.2.2.2.2.2.trans HG4.out).trans g5)
          clear g5
          go_wp2_with fail
          go_ret
          exact ⟨rfl, G5.out⟩
        | true =>
          have HX := Lib.hid hsb
          obtain ⟨m, hm⟩ : ∃ m, X.cut % 700 = m := ⟨_, rfl⟩
          have hm7 : m < 700 := by omega
          have t1 : (X.cut : Int) % 700 = (m : Int) := by omega
          have t1' : (X.cut : Int).tmod 700 = (m : Int) := by rw [Int.tmod_eq_emod_of_nonneg (by omega)]; exact t1
          have t3 : IntKind.u16.wrap (m : Int) = (m : Int) := by rw [IntKind.wrap_u16]; omega
          have t4 : IntKind.i64.wrap (m : Int) = (m : Int) := IntWalk.i64_in _ (by omega)
          have HW0 := Lib.hid (HG4.out.trans (Frm.refl (fun _ => False) w4).drew)
          have HSx := Lib.hid (show ∀ W, Frm (fun _ => False) wr W → W.cell? ⟨bb, off + k * 6 + 4, none⟩ = some (.int .u16 (X.cut : Nat)) ∧ W.cell? ⟨bb, off + k * 6 + 5, none⟩ = some (.slice az X.cs.length capz) from fun W gW => by
            have h := HAt.out.keepF (HSt.out.2.2.2.2.2.2.trans gW)
            exact ⟨h.c4, h.c5⟩)
          clear hsb hm
          go_upto_region 11 with fail

          refine wp_region_freeO [0, 1, 2, 3, 4, 5, 6, 7, 8, 9, 10, 11, 12] [13, 14] (fun W => W.cell? ⟨bb, off + k * 6 + 4, none⟩ = some (.int .u16 (X.cut : Nat)) ∧ W.cell? ⟨bb, off + k * 6 + 5, none⟩ = some (.slice az X.cs.length capz))
            (fun i => ([.pointer (some ⟨b, 0, none⟩), .slice (some ⟨bb, off, none⟩) LS.length cap, .int .i64 (k : Nat), .pointer (some ⟨bb, off + k * 6, none⟩), .pointer (some ⟨bb, off + k * 6 + 4, none⟩), .int .u16 (X.cut : Nat), .int .u16 (m : Nat), .int .i64 (m : Nat), .slice (some ⟨bb, off, none⟩) LS.length cap, .int .i64 (k : Nat), .pointer (some ⟨bb, off + k * 6, none⟩), .pointer (some ⟨bb, off + k * 6 + 5, none⟩), .slice az X.cs.length capz] : List Value).getD i undef)
            (by kernel_rfl) rfl (by rfl) rfl (by kernel_rfl) (by kernel_rfl) (by kernel_rfl) (by kernel_rfl) (by kernel_rfl) (HSx.out _ HW0.out) ?_ ?_
          · repeat'
              (refine ⟨by rfl, fun W hW => ?_, ?_⟩
               · obtain ⟨h1, h2⟩ := hW
                 go_simp
               (try simp only [Act.put, List.setIfInBounds_toArray, List.set_cons_zero, List.set_cons_succ]))
            trivial
          · simp only [aP, Act.put, List.setIfInBounds_toArray, List.set_cons_zero, List.set_cons_succ, List.getD_cons_zero, List.getD_cons_succ]
            obtain ⟨wd, hwd⟩ : ∃ wd, w4.drew = wd := ⟨_, rfl⟩
            rw [hwd]
            have HW0 : Hid (Frm (fun _ => False) wr wd) := by rw [← hwd]; exact HW0
            clear hwd HG4 t1 t1' t3 t4
            have HLn := Lib.hid (lnew_any b f x D (m : Int) (.slice az X.cs.length capz) X.cs wd (HSt.out.1.keepF HW0.out) (by unfold Z64; omega) (HAt.out.zs.keepF (HSt.out.2.2.2.2.2.2.trans HW0.out)) HAt.out.fits.cs (by have := (smB_ok HX.out).2.1; omega) (fun g => wd.heap.size ≤ g) (fun _ h => h))
            refine wpFree.one (i := 13) (M' := [14]) (by kernel_rfl) (by rfl) ?_
            refine wpOp_callD rfl rfl (by rfl) (by go_simp) (HLn.out.mono ?_)
            rintro e w5 ⟨_, rfl, l, rfl, hl, hlo, g5⟩
            refine ⟨_, rfl, HSx.out w5 (HW0.out.trans g5), ?_⟩
            have HS5 := Lib.hid (HSx.out w5 (HW0.out.trans g5))
            obtain ⟨L0, hL0⟩ : ∃ L0, ({ LV.new D (m : Int) X.cs (fun g => wd.heap.size ≤ g) with P := fun g => (LV.new D (m : Int) X.cs (fun g => wd.heap.size ≤ g)).P g ∧ g < w5.heap.size } : LV) = L0 := ⟨_, rfl⟩
            have HL := Lib.hid (show LnM w5 l b f x L0 ∧ L0.D = D ∧ L0.down = false ∧ L0.acts = 0 ∧ (∀ g, L0.P g → wd.heap.size ≤ g ∧ g < w5.heap.size) ∧ wd.heap.size ≤ l ∧ Frm (fun _ => False) wr w5 by
              have h1 := hl.low
              rw [hL0] at h1
              refine ⟨h1, ?_, ?_, ?_, fun g hg => ?_, hlo, HW0.out.trans g5⟩
              · rw [← hL0]; rfl
              · rw [← hL0]; rfl
              · rw [← hL0]; rfl
              · rw [← hL0] at hg; exact hg)
            clear hl hlo g5 HLn hL0 HSx
            (try simp only [Act.put, List.setIfInBounds_toArray, List.set_cons_zero, List.set_cons_succ])
            refine wpFree.one (i := 14) (M' := []) (by kernel_rfl) (by rfl) ?_
            refine wpOp.val rfl (by rfl) (fun K hK => ?_)
            unfold Oper.wp execOp
            go_simp
            refine hK _ _ ⟨HS5.out, ?_⟩
            clear hK K HS5
            (try simp only [Act.put, List.setIfInBounds_toArray, List.set_cons_zero, List.set_cons_succ])
            refine wpFree.done ?_
            have HO : Hid (Calls Tryz.prog 41 #[.pointer (some ⟨l, 0, none⟩)] w5 (OpTo l 128 (s, gn, gs, 0) w5)) := Lib.hid (by
              have h := wopen_any l b f x L0 w5 HL.out.1 (.inr fun k hk => (HL.out.2.2.2.2.1 k hk).2)
              have hn : L0.D.n / 4 = 128 := by rw [HL.out.2.1, HSt.out.2.1]
              rw [hn, HSt.out.2.2.1.op HL.out.2.2.1 HL.out.2.1] at h
              exact h)
            go_wp2_with fail
            refine HO.out.mono ?_
            rintro e w6 ⟨pv, gv, rfl, g6, h6', _⟩
            obtain ⟨q1, rfl, hq1, hWk, hgO, hgq⟩ := h6' rfl
            have HLt := Lib.hid (And.intro HL.out.1.lt (And.intro (show wr.heap.size ≤ wd.heap.size from HW0.out.size) (And.intro HSt.out.1.lt HSt.out.2.2.2.2.2.1.lt)))
            have hSz : StoM w6 z sure may (Zk z q1 l f x) := ((HSt.out.2.2.2.2.2.1.zone (Z' := Zk z q1 l f x) fun k hk hX => by
              have h1 := HLt.out
              have h2 := HL.out.2.2.2.2.2.1
              have h3 := HL.out.2.2.2.2.2.2.size
              unfold Zk WlX LnX at hX
              unfold Zd
              omega).keepF HL.out.2.2.2.2.2.2).keepF g6
            have HOp := Lib.hid (opened_any z gv gs sure may (Zk z q1 l f x) w6 hSz (.inl rfl) hgO (fun k hk hX => by
              have h1 := HLt.out
              have h2 := hgq k hk
              have h3 := HL.out.2.2.2.2.2.2.size
              unfold Zk WlX LnX at hX
              omega) HSt.out.2.2.2.1)
            have H6 := Lib.hid (And.intro hWk (And.intro hgO (And.intro hgq (And.intro hq1 g6))))
            have hnl := wl_neqn2
            clear g6 h6' hWk hgO hgq hq1 hSz HO
            go_wp2_with fail
            clear hnl
            refine HOp.out.mono ?_
            rintro e w7 ⟨rfl, hS7, g7⟩
            have HN7 := Lib.hid (And.intro HBt.out.2.1 (And.intro HLt.out (And.intro HL.out.2.2.2.2.2.1 (And.intro HL.out.2.2.2.2.2.2.size (And.intro H6.out.2.2.2.1 H6.out.2.2.2.2.size)))))
            have hgv : ∀ k, gv.ownBlock = some k → ¬ k = z := fun k hk e => by
              have h1 := HN7.out
              have h2 := H6.out.2.2.1 k hk
              omega
            have hW7 : Wlk w7 q1 l ⟨128, s, gn, false⟩ none := H6.out.1.keepX g7 (by have := HN7.out; omega)
            have HGn : Hid (Calls Tryz.prog 44 #[.pointer (some ⟨q1, 0, none⟩)] w7 fun e w' => e = .returned (.int .u32 (gn : Nat)) ∧ w7 = w') := Lib.hid (wgen_any q1 l ⟨128, s, gn, false⟩ none w7 hW7)
            have hgr7 : Frm (fun _ => False) w w7 := ((HSt.out.2.2.2.2.2.2.trans HL.out.2.2.2.2.2.2).trans H6.out.2.2.2.2).next g7 fun k hk e => by have := HB1.out.2; omega
            have HT7 := Lib.hid (wtells_any b f x D 128 s gn gs gv w7 (((HSt.out.1.keepF HL.out.2.2.2.2.2.2).keepF H6.out.2.2.2.2).keep g7 (by have := HN7.out; omega) (by have := HN7.out; omega) (by have := HN7.out; omega)) (by rw [HSt.out.2.1]) HSt.out.2.2.1 (OwnS.reads (H6.out.2.1.keep g7 hgv)))
            have hL7 : LnM w7 l b f x L0 := (HL.out.1.keepF H6.out.2.2.2.2).keep g7 (by have := HN7.out; omega) (by have := HN7.out; omega) (by have := HN7.out; omega) (by have := HN7.out; omega) (.inr fun k hk e => by have := (HL.out.2.2.2.2.1 k hk).1; have := HN7.out; omega)
            have H7 := Lib.hid (And.intro hW7 (And.intro hL7 (And.intro hS7 (And.intro hgr7 g7.size))))
            clear hgv hW7 hL7 hS7 hgr7 g7 HOp
            go_wp2_with fail
            refine HGn.out.mono ?_
            rintro e w8 ⟨rfl, rfl⟩
            clear HGn
            go_wp2_with fail
            refine HT7.out.mono ?_
            rintro e w8 ⟨rfl, g8⟩
            have hgr8 := H7.out.2.2.2.1.trans g8
            have hat8 := HAt.out.keepF hgr8
            have c0 := hat8.c0
            have c1 := hat8.c1
            have c2 := hat8.c2
            have c3 := hat8.c3
            have c4 := hat8.c4
            have c5 := hat8.c5
            have hYw : ∀ k, k < w.heap.size → ¬ Yx z q1 q1 l f x k := fun k hk hY => by
              have h1 := HB1.out
              have h2 := HN7.out
              have h3 := HSt.out.2.2.2.2.2.2.size
              unfold Yx WlX LnX at hY
              omega
            have HLv := Lib.hid (lives_any z q1 l b f x gn L0 X _ _ s gn gs w8
              ⟨H7.out.1.keepF g8, H7.out.2.1.keepF g8, by have := HN7.out; omega, .inr fun k hk => by have := (HL.out.2.2.2.2.1 k hk).2; have := HN7.out; omega, ⟨(show 2 ≤ 128 by decide), by rw [HL.out.2.1, HSt.out.2.1]; show 2 * 128 ≤ 512; decide, by rw [HL.out.2.1, HSt.out.2.1]; decide, by have := HSt.out.2.2.1.s1; show s ≤ 1; omega, by have := HSt.out.2.2.2.2.1; show gn < _; omega⟩⟩
              (by rw [HL.out.2.1]; exact HSt.out.2.2.1) HL.out.2.2.1 (Nat.le_refl _) (by have := HSt.out.2.2.2.2.1; omega) (by rw [HL.out.2.2.2.1]; decide) (H7.out.2.2.1.keepF g8) (by have := HN7.out; omega)
              (.inr fun k hk => by have h1 := HL.out.2.2.2.2.1 k hk; have := HN7.out; have := H7.out.2.2.2.2; have := g8.size; omega) HX.out
              (fun W gW => HAt.out.sl.keepF (hgr8.next gW fun k hk hY => (hYw k hk hY).elim)) (HAt.out.zs.keepF hgr8))
            have H8 := Lib.hid (And.intro hgr8 hYw)
            clear hat8 hgr8 hYw g8 HT7
            unfold lfV at HLv
            go_wp2_with fail
            refine HLv.out.mono ?_
            rintro e w9 ⟨rfl, w0, gw0, L', sure2, may2, s2, gn2, gs2, e1, e2, e3, e4, e5, e6, e7, e8⟩
            have hgr9 : Frm (fun _ => False) w w9 := (H8.out.1.trans gw0).next e7 fun k hk hY => (H8.out.2 k hk hY).elim
            have HBl := Lib.hid (lblow_any l b f x L' w9 e1)
            have H9 := Lib.hid (And.intro e2 (And.intro e3 (And.intro e4 (And.intro e5 (And.intro e6 hgr9)))))
            clear gw0 e1 e2 e3 e4 e5 e6 e7 e8 hgr9 HLv c0 c1 c2 c3 c4 c5
            go_wp2_with fail
            refine HBl.out.mono ?_
            rintro e w10 ⟨rfl, hl10, g10⟩
            have hBt : BtM w z b f x (k + 1) w10 := by
              have h7 := HN7.out
              refine ⟨L'.blow.D, s2, gn2, gs2, sure2, may2, hl10.dev, ?_, H9.out.1.blow, H9.out.2.1, by have := H9.out.2.2.1; have := HSt.out.2.2.2.2.1; omega, ?_, H9.out.2.2.2.2.2.next g10 fun k hk hX => ?_⟩
              · rw [blow_n H9.out.1.X, H9.out.2.2.2.1.n, HL.out.2.1, HSt.out.2.1]
              · refine (H9.out.2.2.2.2.1.keep g10 (fun k hX => .inr hX) (fun hX => ?_)).zone fun k _ hX => ?_
                · unfold LnX at hX; omega
                · rcases hX with h | h | h
                  · exact .inl h
                  · exact .inr (.inr (.inl h))
                  · exact .inr (.inr (.inr h))
              · have h1 := HB1.out
                have h3 := HSt.out.2.2.2.2.2.2.size
                unfold LnX at hX
                omega
            have HBn := Lib.hid hBt
            clear hl10 g10 hBt HBl H9
            go_wp2_with fail
            exact ⟨⟨k + 1, by omega, by go_num, HBn.out⟩, by simp [intOf]; omega⟩
      · have hki : ¬ (k : Int) < (LS.length : Int) := by omega
        obtain ⟨D, s, gn, gs, sure, may, p1, p2, p3, p4, p5, p6, p7⟩ := HBk.out
        have HL := Lib.hid (lnew_any b f x D (-1) _ [] wr p1 (by unfold Z64; decide) (nil_zs (w := wr)) (fun _ h => by cases h) (show 0 ≤ 1000000 by decide))
        have HSt := Lib.hid (And.intro p1 (And.intro p2 (And.intro p3 (And.intro p4 (And.intro p5 (And.intro p6 p7))))))
        clear p1 p2 p3 p4 p5 p6 p7
        go_wp2_with fail
        refine HL.out.mono ?_
        rintro e w5 ⟨_, rfl, l, rfl, hl, hlo, g5⟩
        have HO : Hid (Calls Tryz.prog 41 #[.pointer (some ⟨l, 0, none⟩)] w5 (OpTo l 128 (s, gn, gs, 0) w5)) := Lib.hid (by
          have h := wopen_any l b f x _ w5 hl (.inl rfl)
          have hn : (LV.new D (-1) []).D.n / 4 = 128 := by show D.n / 4 = 128; rw [HSt.out.2.1]
          rw [hn, HSt.out.2.2.1.op (L := LV.new D (-1) []) rfl rfl] at h
          exact h)
        have G5 := Lib.hid g5
        clear hl hlo g5 HL
        go_wp2_with fail
        refine HO.out.mono ?_
        rintro e w6 ⟨pv, gv, rfl, g6, h6', _⟩
        obtain ⟨q1, rfl, hq1, hWk, hgO, hgq⟩ := h6' rfl
        have hSz : StoM w6 z sure may (Zd z f x) := (HSt.out.2.2.2.2.2.1.keepF G5.out).keepF g6
        have HOp := Lib.hid (opened_any z gv gs sure may (Zd z f x) w6 hSz (.inl rfl) hgO (fun k hk hX => by
          have h1 := HSt.out.1.lt
          have h2 := hgq k hk
          have h3 := G5.out.size
          have h4 := HSt.out.2.2.2.2.2.1.lt
          unfold Zd at hX
          omega) HSt.out.2.2.2.1)
        have G6 := Lib.hid ((HSt.out.2.2.2.2.2.2.trans G5.out).trans g6)
        clear g6 h6' hWk hgO hgq hq1 hSz HO
        go_wp2_with fail
        refine HOp.out.mono ?_
        rintro e w7 ⟨rfl, _, g7⟩
        have G7 := Lib.hid (G6.out.next g7 fun k hk e => by have := HB1.out.2; omega)
        clear g7 HOp
        go_wp2_with fail
        refine (HWK.out _).mono ?_
        rintro e w8 ⟨rfl, g8⟩
        have G8 := Lib.hid (G7.out.trans g8)
        clear g8
        go_wp2_with fail
        go_ret
        exact ⟨rfl, G8.out⟩
  · have h6i : (6 : Int) < (LS.length : Int) := by omega
    go_enter Tryz.func8, Tryz.ntmps8
    go_wp2_with fail
    refine HN.out.mono ?_
    rintro e w1 ⟨_, rfl, b, f, x, rfl, hd, hb, hf, hx, g1⟩
    have HL := Lib.hid (lnew_any b f x _ (-1) _ [] w1 hd (by unfold Z64; decide) (nil_zs (w := w1)) (fun _ h => by cases h) (show 0 ≤ 1000000 by decide))
    have H1 := Lib.hid (And.intro (And.intro hb (And.intro hf hx)) g1)
    clear hd hb hf hx g1 HN
    go_wp2_with fail
    refine HL.out.mono ?_
    rintro e w2 ⟨_, rfl, l, rfl, hl, hlo, g2⟩
    have HK := wmake_any l b f x _ firstB w2 hl (by show 0 ≤ 700000; decide) (.inl rfl)
    have hD : (LV.new (DV.new 512) (-1) []).D.n / 4 = 128 := rfl
    rw [hD, HM.out.1] at HK
    unfold MkTo at HK
    have HK := Lib.hid HK
    have H2 := Lib.hid (And.intro (show w.heap.size ≤ l from Nat.le_trans H1.out.2.size hlo) (H1.out.2.trans g2))
    clear hl hlo g2 HL hD
    go_wp2_with fail
    refine HK.out.mono ?_
    rintro e w3 ⟨pv, rfl, g3, h3, _⟩
    obtain ⟨q, g, rfl, _, _, _⟩ := h3 trivial
    have G3 := Lib.hid (H2.out.2.toNewX g3 ⟨H2.out.1, H1.out.1.2.1, H1.out.1.2.2⟩)
    clear g3 h3 HK
    go_wp2_with fail
    refine (HWK.out _).mono ?_
    rintro e w4 ⟨rfl, g4⟩
    have G4 := Lib.hid (G3.out.trans g4)
    clear g4
    go_wp2_with fail
    go_ret
    exact ⟨rfl, G4.out⟩
end Go.Proofs.YtddjkbpgaenpgaaGreat

