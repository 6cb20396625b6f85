/- WalFull: what is committed is told, in order, as long as there is room; a group that is told ErrFull changes nothing; behind each Checkpoint its dump alone is told. No condition. -/
import Derived.Test.YtddjkbpgaenpgaaGreatWlS
import Derived.Test.YtddjkbpgaenpgaaGreatDvS
import Derived.Test.YtddjkbpgaenpgaaGreatDvAct
section
namespace Go.Proofs.YtddjkbpgaenpgaaGreat
open Go.RowKit Go.Shelf

def firstB : List UInt8 := [102, 105, 114, 115, 116]
/-- One text in new memory. -/
theorem own_one (w : World) (s : List UInt8) : OwnS (w.alloc (.cells #[.string (bs s)] 9)) (.slice (some ⟨w.heap.size, 0, none⟩) 1 1) [s] :=
  Row.made w 9 1 1 1 (strs [s]) #[.string (bs s)] rfl (Nat.le_refl _) (by unfold maxLen; decide) rfl rfl
/-- Where the groups that must be told lie: apart from what a log changes. -/
def SepW (q g l f x : Nat) (v : Value) : Prop := ∀ k, v.ownBlock = some k → ¬ WgX q g l f x k
theorem sep_new {q g l f x B : Nat} {v : Value} (h : ∀ k, v.ownBlock = some k → B ≤ k) (h1 : q < B) (h2 : g < B) (h3 : l < B) (h4 : f < B) (h5 : x < B) : SepW q g l f x v := fun k hk hX => by
  have := h k hk
  unfold WgX RgX LnX at hX
  omega
theorem WlR.lt {w : World} {q l b f x g : Nat} {V : WV} {R : RV} {L : LV} (h : WlR w q l b f x g V R L) : q < w.heap.size ∧ g < w.heap.size ∧ l < w.heap.size ∧ f < w.heap.size ∧ x < w.heap.size := by
  have h1 := h.rg.lt
  exact ⟨h.wl.qlt, h1.1, h1.2.1, h1.2.2.2.1, h1.2.2.2.2⟩
theorem WlR.keepF {w w' : World} {q l b f x g : Nat} {V : WV} {R : RV} {L : LV} (h : WlR w q l b f x g V R L) (hf : Frm (fun _ => False) w w') : WlR w' q l b f x g V R L := ⟨h.wl.keepF hf, h.rg.keepF hf, h.gq⟩
theorem dev_div {L L' : LV} {n k : Nat} (h : Ls L L' k) (hn : L.D.n / 4 = n) : L'.D.n / 4 = n := by rw [h.n]; exact hn
set_option maxRecDepth 100000 in
set_option maxHeartbeats 32000000 in
theorem walFull_any (v : Value) (l0 : List (List UInt8)) (n0 : Nat) (w : World) (hv : Strs w v l0) (hs : ∀ s ∈ l0, s.length ≤ 9223372036854775807) (hn0 : n0 < 256) :
    Calls Tryz.prog 10 #[v, .int .u8 (n0 : Nat)] w fun e w' => e = .returned (.bool true) ∧ Frm (fun _ => False) w w' := by
  obtain ⟨a, cap, rfl, hc1, hc2⟩ := hv.slice
  unfold maxLen at hc2
  have HWK := Lib.hid (fun W => wworks_any W)
  have HN := Lib.hid (new256 w)
  have HV := Lib.hid hv
  have hok : (DV.new 256).ok := DV.ok_new (by decide) (by decide)
  obtain ⟨m1, m2, m3⟩ := mk_uc (n := 64) (t := firstB) new_uc hok (by decide) (by decide) (by decide) (by decide)
  have m4 := (ls_mk (LV.new (DV.new 256) (-1) []) 64 firstB)
  obtain ⟨⟨R1, L1, c1⟩, hp1⟩ : ∃ p, mkR (LV.new (DV.new 256) (-1) []) 64 firstB = p := ⟨_, rfl⟩
  rw [hp1] at m1 m2 m3 m4
  have m1 : c1 = 0 := m1
  subst m1
  have m2 : Cm 64 L1 R1 0 1 [firstB] := m2
  have m3 : Uc L1 := m3
  have m4 : Ls _ L1 _ := m4
  have HM := Lib.hid (And.intro hp1 (And.intro m2 (And.intro m3 m4)))
  have hbs1 : (⟨#[102, 105, 114, 115, 116]⟩ : ByteArray) = bs firstB := rfl
  clear hv hok m2 m3 m4 hp1
  by_cases h60 : l0.length ≤ 60
  · have h60i : ¬ (60 : Int) < (l0.length : Int) := by omega
    obtain ⟨c, hc⟩ : ∃ c, n0 % 20 = c := ⟨_, rfl⟩
    have hc20 : c < 20 := by omega
    have t1 : (n0 : Int) % 20 = (c : Int) := by omega
    have t1' : (n0 : Int).tmod 20 = (c : Int) := by rw [Int.tmod_eq_emod_of_nonneg (by omega)]; exact t1
    have t3 : IntKind.u8.wrap (c : Int) = (c : Int) := IntWalk.u8_in _ (by omega)
    have t4 : IntKind.i64.wrap (c : Int) = (c : Int) := IntWalk.i64_in _ (by omega)
    have t5 : IntKind.i64.wrap (3 + (c : Int)) = 3 + (c : Int) := IntWalk.i64_in _ (by omega)
    have t6 : ¬ (3 + (c : Int)) = 0 := by omega
    have t7 : ((3 + (c : Int)) == 0) = false := by rw [beq_eq_false_iff_ne]; omega
    clear hc
    go_enter Tryz.func10, Tryz.ntmps10
    go_wp2_with fail
    refine HN.out.mono ?_
    rintro e w1 ⟨_, rfl, b, f, x, rfl, hd, hb, hf, hx, g1⟩
    have HL := Lib.hid (lnew_any b f x _ (-1) _ [] w1 hd (by unfold Z64; decide) (nil_zs (w := w1)) (fun _ h => by cases h) (show 0 ≤ 1000000 by decide))
    have H1 := Lib.hid (And.intro (And.intro hb (And.intro hf hx)) g1)
    clear hd hb hf hx g1 HN
    go_wp2_with fail
    refine HL.out.mono ?_
    rintro e w2 ⟨_, rfl, l, rfl, hl, hlo, g2⟩
    have HK := wmake_any l b f x _ firstB w2 hl (by show 0 ≤ 700000; decide) (.inl rfl)
    have hD : (LV.new (DV.new 256) (-1) []).D.n / 4 = 64 := rfl
    rw [hD, HM.out.1] at HK
    unfold MkTo at HK
    have HK := Lib.hid HK
    have H2 := Lib.hid (And.intro (show w.heap.size ≤ l from Nat.le_trans H1.out.2.size hlo) (H1.out.2.trans g2))
    clear hl hlo g2 HL hD
    go_wp2_with fail
    refine HK.out.mono ?_
    rintro e w3 ⟨pv, rfl, g3, h3, _⟩
    obtain ⟨q, g, rfl, hq, hg, hW⟩ := h3 trivial
    have hW : WlR w3 q l b f x g ⟨64, 0, 1, false⟩ R1 L1 := hW
    have H3 := Lib.hid (And.intro (show w.heap.size ≤ q from Nat.le_trans H2.out.2.size hq) (And.intro (show w.heap.size ≤ g from Nat.le_trans H2.out.2.size hg) (H2.out.2.toNewX g3 ⟨H2.out.1, H1.out.1.2.1, H1.out.1.2.2⟩)))
    have gS : Frm (fun _ => False) w3 (w3.alloc (.cells #[.string (bs firstB)] 9)) := (Frm.refl _ w3).alloc _
    have hlt3 := hW.lt
    have hcs1 : L1.cs.length = 0 := by rw [HM.out.2.2.2.cs]; rfl
    have hD1 : L1.D.n / 4 = 64 := dev_div HM.out.2.2.2 rfl
    have ha1 : L1.acts ≤ 300 := by have := HM.out.2.2.2.acts; have h0 : (LV.new (DV.new 256) (-1) []).acts = 0 := rfl; omega
    have HS3 := Lib.hid (And.intro (hW.keepF gS) (And.intro (own_one w3 firstB) (And.intro (H3.out.2.2.trans gS) (And.intro (show SepW q g l f x (.slice (some ⟨w3.heap.size, 0, none⟩) 1 1) from sep_new (B := w3.heap.size) (fun k hk => by cases hk; exact Nat.le_refl _) hlt3.1 hlt3.2.1 hlt3.2.2.1 hlt3.2.2.2.1 hlt3.2.2.2.2) (And.intro hcs1 (And.intro hD1 ha1))))))
    clear g3 h3 hq hg hW HK gS hlt3 hcs1 hD1 ha1
    go_wp2_with fail
    go_loopw [8, 9, 10] (fun mvv gv i wr => ∃ (k : Nat) (R : RV) (L : LV) (s gn : Nat) (gs : List (List UInt8)) (g : Nat) (mv : Value), mv = mvv ∧ k ≤ l0.length ∧ i = .int .i64 (k : Nat) ∧ gv = .int .u32 (gn : Nat) ∧ gn ≤ k + 1 ∧ gs.length ≤ k + 1 ∧
      WlR wr q l b f x g ⟨64, s, gn, false⟩ R L ∧ Cm 64 L R s gn gs ∧ Uc L ∧ L.cs.length = 0 ∧ L.D.n / 4 = 64 ∧ L.acts ≤ 300 + 200 * k ∧ OwnS wr mv gs ∧ SepW q g l f x mv ∧ w.heap.size ≤ g ∧ Frm (fun _ => False) w wr) (fun _ _ i _ => l0.length - (intOf i).toNat)
    case atStart => exact ⟨0, R1, L1, 0, 1, [firstB], g, _, rfl, Nat.zero_le _, rfl, rfl, Nat.le_refl _, Nat.le_refl _, HS3.out.1, HM.out.2.1, HM.out.2.2.1, HS3.out.2.2.2.2.1, HS3.out.2.2.2.2.2.1, HS3.out.2.2.2.2.2.2, HS3.out.2.1, HS3.out.2.2.2.1, H3.out.2.1, HS3.out.2.2.1⟩
    case round =>
      obtain ⟨k, R, L, s, gn, gs, g, mv, rfl, hk, rfl, rfl, hgk, hgl, hW, hC, hU, hcs, hDn, hac, hO, hSp, hgw, gr⟩ := hrel
      by_cases hlt : k < l0.length
      · have hki : (k : Int) < (l0.length : Int) := by omega
        obtain ⟨pg, off, rfl, hpg, c00⟩ := Strs.at HV.out k hlt
        have c0 := gr.cellF c00
        clear c00
        have hsl := hs l0[k] (List.getElem_mem hlt)
        obtain ⟨t, hte⟩ : ∃ t, l0[k] = t := ⟨_, rfl⟩
        rw [hte] at c0 hsl
        have hSt := Lib.hid (And.intro hW (And.intro hC (And.intro hU (And.intro hcs (And.intro hDn (And.intro hac (And.intro hO (And.intro hSp (And.intro hgw gr)))))))))
        have hB := Lib.hid (And.intro hgk hgl)
        clear hW hC hU hcs hDn hac hO hSp hgw hgk hgl hte
        have hsi : ((bs t).size : Int) = (t.length : Int) := by simp [bs, ByteArray.size]
        by_cases h15 : t.length ≤ 1500
        · have h15i : ¬ (1500 : Int) < (t.length : Int) := by omega
          obtain ⟨m, hm⟩ : ∃ m, k % (3 + c) = m := ⟨_, rfl⟩
          have u1 : (k : Int) % (3 + (c : Int)) = (m : Int) := by rw [← hm]; simp
          have u1' : (k : Int).tmod (3 + (c : Int)) = (m : Int) := by rw [Int.tmod_eq_emod_of_nonneg (by omega)]; exact u1
          have hm22 : m < 3 + c := by rw [← hm]; exact Nat.mod_lt _ (by omega)
          have u3 : IntKind.i64.wrap (m : Int) = (m : Int) := IntWalk.i64_in _ (by omega)
          clear hm
          by_cases h2 : m = 2
          · have u4 : ((m : Int) == 2) = true := by rw [beq_iff_eq]; omega
            have hnd : needs t.length + 1 ≤ 64 := by unfold needs; omega
            have hgc : gn + 1 < 4294967296 := by have := hB.out.1; omega
            obtain ⟨k1, k2, k3⟩ := hSt.out.2.1.rest.ck_uc hSt.out.2.2.1 hgc hnd
            have k4 := (ls_an L ((1 - s) * 64) 64 (gn + 1) t).1
            have HC := wcheck_any q l b f x ⟨64, s, gn, false⟩ (some ⟨g, 0, none⟩) L t wr hSt.out.1.wl rfl (by show t.length ≤ 58 * 63; omega) (by have := hSt.out.2.2.2.2.2.1; omega) (.inl hSt.out.2.2.2.1) hgc
            have HC : Calls Tryz.prog 48 #[.pointer (some ⟨q, 0, none⟩), .string (bs t)] wr (CkTo q l b f x ⟨64, s, gn, false⟩ (some ⟨g, 0, none⟩) (anR L ((1 - s) * 64) 64 (gn + 1) t) wr) := HC
            obtain ⟨⟨R2, L2, c2⟩, hp2⟩ : ∃ p, anR L ((1 - s) * 64) 64 (gn + 1) t = p := ⟨_, rfl⟩
            rw [hp2] at HC k1 k2 k3 k4
            have k1 : c2 = 0 := k1
            subst k1
            unfold CkTo at HC
            have HC := Lib.hid HC
            have HCk := Lib.hid (And.intro (show Cm 64 L2 R2 (1 - s) (gn + 1) [t] from k2) (And.intro (show Uc L2 from k3) (show Ls L L2 _ from k4)))
            have hgw2 : IntKind.u32.wrap ((gn : Int) + 1) = ((gn + 1 : Nat) : Int) := by rw [IntKind.wrap_u32]; omega
            have HGc := Lib.hid hgc
            clear k2 k3 k4 hp2 h2 u1 hgc
            go_wp2_with fail
            refine HC.out.mono ?_
            rintro e w5 ⟨rfl, g5, h5, _⟩
            obtain ⟨g', hg', hW5⟩ := h5 trivial
            have hW5 : WlR w5 q l b f x g' ⟨64, 1 - s, gn + 1, false⟩ R2 L2 := hW5
            have c5 := (World.cell?_of_block (a := ⟨pg, off + k, none⟩) (show w5.heap[pg]? = wr.heap[pg]? from g5.block pg (World.block_lt_of_cell? wr _ c0) (fun hX => by have := H3.out.1; have := H2.out.1; have := H1.out.1.2.1; have := H1.out.1.2.2; unfold WlX LnX at hX; omega))).trans c0
            have gr5 := hSt.out.2.2.2.2.2.2.2.2.2.toNewK g5 ⟨H3.out.1, H2.out.1, H1.out.1.2.1, H1.out.1.2.2⟩
            have H5 := Lib.hid (And.intro hW5 (And.intro gr5 (show w.heap.size ≤ g' from Nat.le_trans gr.size hg')))
            clear g5 h5 hW5 gr5 hg' HC
            have gS : Frm (fun _ => False) w5 (w5.alloc (.cells #[.string (bs t)] 9)) := (Frm.refl _ w5).alloc _
            have hlt5 := H5.out.1.lt
            have HS5 := Lib.hid (And.intro (H5.out.1.keepF gS) (And.intro (own_one w5 t) (And.intro (H5.out.2.1.trans gS) (show SepW q g' l f x (.slice (some ⟨w5.heap.size, 0, none⟩) 1 1) from sep_new (B := w5.heap.size) (fun k hk => by cases hk; exact Nat.le_refl _) hlt5.1 hlt5.2.1 hlt5.2.2.1 hlt5.2.2.2.1 hlt5.2.2.2.2))))
            clear gS hlt5
            go_wp2_with fail
            go_roundw
            case rel =>
              obtain ⟨q1, q2, q3⟩ := HCk.out
              exact ⟨k + 1, R2, L2, 1 - s, gn + 1, [t], g', _, rfl, by omega, by go_num, by first | rfl | (congr 1; omega), by have := hB.out.1; omega, by simp, HS5.out.1, q1, q2, by rw [q3.cs]; exact hSt.out.2.2.2.1, dev_div q3 hSt.out.2.2.2.2.1, by have := q3.acts; have := hSt.out.2.2.2.2.2.1; omega, HS5.out.2.1, HS5.out.2.2.2, H5.out.2.2, HS5.out.2.2.1⟩
            case measure => simp [intOf]; omega
          · have u4 : ((m : Int) == 2) = false := by rw [beq_eq_false_iff_ne]; omega
            have HFt := wfits_any q l b f x g ⟨64, s, gn, false⟩ R L (t.length : Nat) wr hSt.out.1.wl.blk hSt.out.1.rg rfl (by unfold Z64; omega)
            rw [Int.toNat_natCast] at HFt
            by_cases hfit : needs t.length ≤ R.left
            · rw [decide_eq_true hfit] at HFt
              have HFt := Lib.hid HFt
              obtain ⟨k1, k2, k3⟩ := hSt.out.2.1.cm_uc hSt.out.2.2.1 hfit
              have k4 := (ls_cm R L t).1
              have HC := fun (W : World) (gW : Frm (fun _ => False) wr W) => wcommit_any q l b f x g ⟨64, s, gn, false⟩ R L t W (hSt.out.1.keepF gW) rfl hfit (by omega) (by have := hSt.out.2.2.2.2.2.1; omega) (.inl hSt.out.2.2.2.1)
              obtain ⟨⟨R2, L2, c2⟩, hp2⟩ : ∃ p, cmR R L t = p := ⟨_, rfl⟩
              rw [hp2] at HC k1 k2 k3 k4
              have k1 : c2 = 0 := k1
              subst k1
              unfold CmTo at HC
              have HC := Lib.hid HC
              have HCk := Lib.hid (And.intro (show Cm 64 L2 R2 s gn (gs ++ [t]) from k2) (And.intro (show Uc L2 from k3) (And.intro (show Ls L L2 _ from k4) hSt.out.2.1.rn)))
              clear k2 k3 k4 hp2 h2 u1 hfit
              go_wp2_with fail
              refine HFt.out.mono ?_
              rintro e w4 ⟨rfl, g4⟩
              have c4 := g4.cellF c0
              have HC4 := Lib.hid (HC.out w4 g4)
              have G4 := Lib.hid g4
              clear HFt HC g4
              go_wp2_with fail
              refine HC4.out.mono ?_
              rintro e w5 ⟨rfl, g5, hW5⟩
              have hW5 : WlR w5 q l b f x g ⟨64, s, gn, false⟩ R2 L2 := hW5
              have c5 := (World.cell?_of_block (a := ⟨pg, off + k, none⟩) (show w5.heap[pg]? = w4.heap[pg]? from g5.block pg (World.block_lt_of_cell? w4 _ c4) (fun hX => by have := H3.out.1; have := H2.out.1; have := H1.out.1.2.1; have := H1.out.1.2.2; have := hSt.out.2.2.2.2.2.2.2.2.1; unfold WgX RgX LnX at hX; omega))).trans c4
              have gr5 := (hSt.out.2.2.2.2.2.2.2.2.2.trans G4.out).toNewW g5 ⟨H3.out.1, hSt.out.2.2.2.2.2.2.2.2.1, H2.out.1, H1.out.1.2.1, H1.out.1.2.2⟩
              have hO5 := ((hSt.out.2.2.2.2.2.2.1).keep G4.out (fun _ _ h => h)).keep g5 hSt.out.2.2.2.2.2.2.2.1
              have HWi := Lib.hid (with_any mv gs t w5 (OwnS.reads hO5) (by have := hB.out.2; omega))
              obtain ⟨am, capm, rfl, _, _⟩ := (OwnS.reads hO5).slice
              have H5 := Lib.hid (And.intro hW5 gr5)
              clear g5 hW5 gr5 hO5 HC4 c4
              go_wp2_with fail
              refine HWi.out.mono ?_
              rintro e w6 ⟨v6, rfl, hO6, hn6, g6⟩
              obtain ⟨a6, cap6, rfl, _, _⟩ := (OwnS.reads hO6).slice
              rw [show (gs ++ [t]).length = gs.length + 1 by simp] at hO6 hn6
              have hlt5 := H5.out.1.lt
              have HS6 := Lib.hid (And.intro (H5.out.1.keepF g6) (And.intro hO6 (And.intro (H5.out.2.trans g6) (sep_new (q := q) (g := g) (l := l) (f := f) (x := x) hn6 hlt5.1 hlt5.2.1 hlt5.2.2.1 hlt5.2.2.2.1 hlt5.2.2.2.2))))
              clear hO6 hn6 g6 hlt5 HWi
              go_wp2_with fail
              go_roundw
              case rel =>
                obtain ⟨q1, q2, q3, q4⟩ := HCk.out
                exact ⟨k + 1, R2, L2, s, gn, gs ++ [t], g, _, rfl, by omega, by go_num, rfl, by have := hB.out.1; omega, by have := hB.out.2; simp; omega, HS6.out.1, q1, q2, by rw [q3.cs]; exact hSt.out.2.2.2.1, dev_div q3 hSt.out.2.2.2.2.1, by have := q3.acts; have := hSt.out.2.2.2.2.2.1; omega, HS6.out.2.1, HS6.out.2.2.2, hSt.out.2.2.2.2.2.2.2.2.1, HS6.out.2.2.1⟩
              case measure => simp [intOf]; omega
            · rw [decide_eq_false hfit] at HFt
              have HFt := Lib.hid HFt
              have HC := Lib.hid (fun (W : World) (gW : Frm (fun _ => False) wr W) => wcommit_full q l b f x g ⟨64, s, gn, false⟩ R L t W (hSt.out.1.keepF gW) rfl (by omega) (by omega))
              obtain ⟨am, capm, hmv, _, _⟩ := (OwnS.reads hSt.out.2.2.2.2.2.2.1).slice
              have HT := Lib.hid (fun (W : World) (gW : Frm (fun _ => False) wr W) => wtells_any b f x L.D 64 s gn gs mv W (hSt.out.1.wl.ln.dev.keepF gW) hSt.out.2.2.2.2.1 hSt.out.2.1.rest (OwnS.reads (hSt.out.2.2.2.2.2.2.1.keep gW (fun _ _ h => h))))
              subst hmv
              clear h2 u1 hfit
              go_wp2_with fail
              refine HFt.out.mono ?_
              rintro e w4 ⟨rfl, g4⟩
              have c4 := g4.cellF c0
              have HC4 := Lib.hid (HC.out w4 g4)
              have G4 := Lib.hid g4
              clear HFt HC g4
              go_wp2_with fail
              refine HC4.out.mono ?_
              rintro e w5 ⟨rfl, g5⟩
              have HT5 := Lib.hid (HT.out w5 (G4.out.trans g5))
              have G5 := Lib.hid (G4.out.trans g5)
              clear g5 HC4 HT c4
              go_wp2_with fail
              refine HT5.out.mono ?_
              rintro e w6 ⟨rfl, g6⟩
              have G6 := Lib.hid (G5.out.trans g6)
              clear g6 HT5
              go_wp2_with fail
              go_roundw
              case rel =>
                obtain ⟨q1, q2, q3, q4, q5, q6, q7, q8, q9, q10⟩ := hSt.out
                exact ⟨k + 1, R, L, s, gn, gs, g, _, rfl, by omega, by go_num, rfl, by have := hB.out.1; omega, by have := hB.out.2; omega, q1.keepF G6.out, q2, q3, q4, q5, by omega, q7.keep G6.out (fun _ _ h => h), q8, q9, q10.trans G6.out⟩
              case measure => simp [intOf]; omega
        · have h15i : (1500 : Int) < (t.length : Int) := by omega
          go_wp2_with fail
          refine (HWK.out _).mono ?_
          rintro e W ⟨rfl, gW⟩
          have hr := Lib.hid (gr.trans gW)
          clear gW
          go_wp2_with fail
          go_ret
          exact ⟨rfl, hr.out⟩
      · obtain rfl : k = l0.length := by omega
        obtain ⟨am, capm, hmv, _, _⟩ := (OwnS.reads hO).slice
        have HT := Lib.hid (wtells_any b f x L.D 64 s gn gs mv wr hW.wl.ln.dev hDn hC.rest (OwnS.reads hO))
        have GR := Lib.hid gr
        subst hmv
        clear hW hC hU hcs hDn hac hO hSp hgw hgk hgl gr
        go_wp2_with fail
        refine HT.out.mono ?_
        rintro e w6 ⟨rfl, g6⟩
        have G6 := Lib.hid (GR.out.trans g6)
        clear g6 HT
        go_wp2_with fail
        refine (HWK.out _).mono ?_
        rintro e W ⟨rfl, gW⟩
        have hr := Lib.hid (G6.out.trans gW)
        clear gW
        go_wp2_with fail
        go_ret
        exact ⟨rfl, hr.out⟩
  · have h60i : (60 : Int) < (l0.length : Int) := by omega
    go_enter Tryz.func10, Tryz.ntmps10
    go_wp2_with fail
    refine HN.out.mono ?_
    rintro e w1 ⟨_, rfl, b, f, x, rfl, hd, hb, hf, hx, g1⟩
    have HL := Lib.hid (lnew_any b f x _ (-1) _ [] w1 hd (by unfold Z64; decide) (nil_zs (w := w1)) (fun _ h => by cases h) (show 0 ≤ 1000000 by decide))
    have H1 := Lib.hid (And.intro (And.intro hb (And.intro hf hx)) g1)
    clear hd hb hf hx g1 HN
    go_wp2_with fail
    refine HL.out.mono ?_
    rintro e w2 ⟨_, rfl, l, rfl, hl, hlo, g2⟩
    have HK := wmake_any l b f x _ firstB w2 hl (by show 0 ≤ 700000; decide) (.inl rfl)
    have hD : (LV.new (DV.new 256) (-1) []).D.n / 4 = 64 := rfl
    rw [hD, HM.out.1] at HK
    unfold MkTo at HK
    have HK := Lib.hid HK
    have H2 := Lib.hid (And.intro (show w.heap.size ≤ l from Nat.le_trans H1.out.2.size hlo) (H1.out.2.trans g2))
    clear hl hlo g2 HL hD
    go_wp2_with fail
    refine HK.out.mono ?_
    rintro e w3 ⟨pv, rfl, g3, h3, _⟩
    obtain ⟨q, g, rfl, hq, hg, hW⟩ := h3 trivial
    have hW : WlR w3 q l b f x g ⟨64, 0, 1, false⟩ R1 L1 := hW
    have H3 := Lib.hid (And.intro (show w.heap.size ≤ q from Nat.le_trans H2.out.2.size hq) (And.intro (show w.heap.size ≤ g from Nat.le_trans H2.out.2.size hg) (H2.out.2.toNewX g3 ⟨H2.out.1, H1.out.1.2.1, H1.out.1.2.2⟩)))
    clear g3 h3 hq hg hW HK
    go_wp2_with fail
    refine (HWK.out _).mono ?_
    rintro e W ⟨rfl, gW⟩
    have hr := Lib.hid (H3.out.2.2.trans gW)
    clear gW
    go_wp2_with fail
    go_ret
    exact ⟨rfl, hr.out⟩
end Go.Proofs.YtddjkbpgaenpgaaGreat
end
section
namespace Go.Proofs.YtddjkbpgaenpgaaGreat
open Go.ChangeShapes Go.WideShapes Go.ChangeAt Go.RowKit Go.Deep
theorem ab_u8 {n : Int} (h : (Lit.int .u8 n).wf = true) : 0 ≤ n ∧ n ≤ 255 := by
  have h1 : IntKind.u8.min = 0 := by decide
  have h2 : IntKind.u8.max = 255 := by decide
  simp [Lit.wf, h1, h2] at h
  exact h
section
variable {H : Type} {enc : TypeId × Value → H} {w : World} {base : Nat} {spare : Nat → Bool} {held : Bool}
end
end Go.Proofs.YtddjkbpgaenpgaaGreat
end
