/- DeviceOrder answers true, of any pages, any choices. No condition. -/
import Derived.Test.YtnhihadnaiaojaaLawDvHolds
import Derived.Test.YtnhihadnaiaojaaDvP
import Derived.Test.YtnhihadnaiaojaaDvPg
namespace Go.Proofs.Ytnhihadnaiaojaa
open Go.RowKit Go.Shelf

section
variable {P : Program} {ops : Array Oper} {Q : Exit → Act → World → Prop}
theorem wpTail.consG {r m : Nat} {a : Act} {w : World} {o : Oper} (hi : ops[r]? = some o) (hw : Region.wanted o (yielded ops a.tmps) = true) (h : ∀ K : Act → World → Prop, (∀ a w, wpTail P ops Q (r + 1) m a w → K a w) → o.wp P a w K Q) : wpTail P ops Q r (m + 1) a w := by
  show wpOp P ops Q r _ a w
  unfold wpOp
  simp only [hi]
  rw [if_pos hw]
  exact .inl (h _ fun _ _ h => h)
end
/-- A device and a page's write. -/
theorem write_page (b f x : Nat) (D : DV) (k : Nat) (s : List UInt8) (w : World) (h : DevM w b f x D) (hn : D.n = 256) (hk : k < 256) (hs : s.length ≤ 64) :
    Calls Try.prog 16 #[.pointer (some ⟨b, 0, none⟩), .int .i64 (k : Int), .string (bs s)] w fun e w' => e = .returned (.int .i64 0) ∧ DevM w' b f x (D.write k s) ∧ Frm (· = x) w w' := by
  have hbad : D.bad (k : Int) = false := decide_eq_false (by omega)
  have hE : D.writeE (k : Int) s = 0 := by unfold DV.writeE; rw [hbad, if_neg (by decide), if_neg (by omega)]
  have hT : D.writeTo (k : Int) s = D.write k s := by unfold DV.writeTo; rw [if_pos hE]; rfl
  have := write_any b f x D (k : Int) s w h (by unfold Z64; omega) (by omega)
  rw [hE, hT] at this
  exact this
set_option maxRecDepth 100000 in
set_option maxHeartbeats 16000000 in
theorem deviceOrder_any (v : Value) (L : List PgI) (v1 : Value) (cs : List Int) (w : World) (hA : Pgs w v L) (hZ : Zs w v1 cs) (hz : ∀ z ∈ cs, Z64 z) :
    Calls Try.prog 7 #[v, v1] w fun e w' => e = .returned (.bool true) ∧ Frm (fun _ => False) w w' := by
  obtain ⟨az, cz, rfl, hz1, hz2⟩ := hZ.slice
  obtain ⟨a, cap, rfl, h1, h2, h3⟩ := hA
  unfold maxLen at hz2 h2
  have HN := Lib.hid new256
  have HA := Lib.hid h3
  have HZ := Lib.hid (And.intro hZ hz)
  have HW := Lib.hid awake_any
  clear h3 hZ hz
  go_enter Try.func7, Try.ntmps7
  go_wp2_with fail
  refine (HN.out _).mono ?_
  rintro e w1 ⟨_, rfl, b, f, x, rfl, hd, hb, hf, hx, g1⟩
  have H1 := Lib.hid (And.intro hd g1)
  have hlt1 := hd.lt
  have hs1 := g1.size
  clear hd g1
  go_wp2_with fail
  refine (HN.out _).mono ?_
  rintro e w2 ⟨_, rfl, b2, f2, x2, rfl, hd2, hb2, hf2, hx2, g2⟩
  have H2 := Lib.hid (And.intro (H1.out.1.keepF g2) (And.intro hd2 (H1.out.2.trans g2)))
  have hlt2 := hd2.lt
  clear hd2 g2 HN
  have BAD : ∀ (hbad : 60 < L.length ∨ 20 < cs.length), True := fun _ => trivial
  by_cases hl1 : L.length ≤ 60
  · have hl1i : ¬ (60 : Int) < (L.length : Int) := by omega
    by_cases hl : cs.length ≤ 20
    · have hl2 : ¬ (20 : Int) < (cs.length : Int) := by omega
      clear BAD
      have hz62 : Try.zeroCells62 = zsArr (fun _ => 0) := by kernel_rfl
      have bq := Blk.alloc w2 62 Try.zeroCells62
      have ga : Frm (fun _ => False) w2 (w2.alloc (.cells Try.zeroCells62 62)) := (Frm.refl _ w2).alloc _
      obtain ⟨qv, hqv⟩ : ∃ qv, w2.heap.size = qv := ⟨_, rfl⟩
      rw [hqv] at bq
      rw [hz62] at bq
      have H3 := Lib.hid (And.intro (H2.out.1.keepF ga) (And.intro (H2.out.2.1.keepF ga) (And.intro bq (H2.out.2.2.trans ga))))
      have HQ := Lib.hid hqv
      have hqb : b < qv ∧ f < qv ∧ x < qv ∧ b2 < qv ∧ f2 < qv ∧ x2 < qv ∧ w.heap.size ≤ qv := by omega
      have hsep : b < w1.heap.size ∧ f < w1.heap.size ∧ x < w1.heap.size := hlt1
      obtain ⟨m1, hm1⟩ : ∃ m1, w1.heap.size = m1 := ⟨_, rfl⟩
      rw [hm1] at hsep hb2 hf2 hx2 hs1
      clear hz62 bq ga hqv hlt1 hlt2 hm1
      go_wp2_with fail
      rw [HQ.out]
      go_loopw [8] (fun i wr => ∃ k : Nat, k ≤ L.length ∧ i = .int .i64 k ∧ DevM wr b f x (aD L k) ∧ DevM wr b2 f2 x2 (DV.new 256) ∧ Blk wr qv 62 (zsArr (lastN L k)) ∧ (∀ j (hj : j < L.length), j < k → L[j].s.length ≤ 64) ∧ Frm (fun _ => False) w wr) (fun i _ => L.length - (intOf i).toNat)
      case atStart => exact ⟨0, Nat.zero_le _, rfl, by rw [aD_zero]; exact H3.out.1, H3.out.2.1, H3.out.2.2.1, fun j hj h => absurd h (Nat.not_lt_zero _), H3.out.2.2.2⟩
      case round =>
        obtain ⟨i, hi, rfl, hda, hdb, hbq, hall, gr⟩ := hrel
        by_cases hlt : i < L.length
        · obtain ⟨p, off, rfl, hat0⟩ := HA.out i hlt
          have hat := hat0.keepF gr
          have hstep := aD_step L i hlt
          have hls := lastN_step L i hlt
          obtain ⟨y, hy⟩ : ∃ y, L[i] = y := ⟨_, rfl⟩
          rw [hy] at hat hstep hls
          have c0 := hat.c0
          have c1 := hat.c1
          have hk256 := hat.k
          have hli : (i : Int) < (L.length : Int) := by omega
          have hi0 : (0 : Int) ≤ (i : Int) := by omega
          have HY := Lib.hid (And.intro hy (And.intro hstep hls))
          have HD := Lib.hid (And.intro hda (And.intro hdb (And.intro hbq (And.intro hall gr))))
          clear hy hstep hls hat0 hat hda hdb hbq hall gr
          by_cases h64 : y.s.length ≤ 64
          · have hz64 : ¬ (64 : Int) < ((bs y.s).size : Int) := by rw [bs_size]; omega
            have hwk : IntKind.i64.wrap (y.k : Int) = (y.k : Int) := by rw [IntKind.wrap_i64]; omega
            go_upto_region 10 with fail
            refine wp_region_tail 12 1 (fun w' => w'.cell? ⟨p, off + i * 2, none⟩ = some (.int .u8 (y.k : Nat)) ∧ w'.cell? ⟨p, off + i * 2 + 1, none⟩ = some (.string (bs y.s)) ∧ Frm (fun _ => False) wr w') (by kernel_rfl) rfl rfl (by kernel_rfl) (by kernel_rfl) (by kernel_rfl) (by kernel_rfl) (⟨c0, c1, (Frm.refl _ wr).drew⟩) ?_
            repeat' first
              | (refine CanonL.skip (by rfl) ?_; (try simp only [Act.put, List.setIfInBounds_toArray, List.set_cons_zero, List.set_cons_succ]))
              | (refine CanonL.val (v := ?_) (by rfl) ?_ ?_; rotate_left 1; (focus (intro w hSw; (try dsimp only at hSw); go_simp; (try (with_reducible rfl)); done)); (try simp only [Act.put, List.setIfInBounds_toArray, List.set_cons_zero, List.set_cons_succ]))
            refine CanonL.done ?_
            intro w9 hS9
            obtain ⟨c09, _, g9⟩ := hS9
            have HWP := Lib.hid (write_page b f x (aD L i) y.k y.s w9 (HD.out.1.keepF g9) rfl hk256 h64)
            have H9 := Lib.hid (And.intro (HD.out.2.1.keepF g9) (And.intro (HD.out.2.2.1.keep g9 (fun h => h)) (HD.out.2.2.2.2.trans g9)))
            clear g9 c1
            refine wpTail.cons rfl rfl (fun K hK => ?_)
            unfold Oper.wp execOp
            go_simp
            with_reducible refine HWP.out.mono ?_
            rintro e w10 ⟨rfl, hda, g10⟩
            rw [HY.out.2.1] at hda
            have hdb := H9.out.1.keep g10 (by omega) (by omega) (by omega)
            have hbq := H9.out.2.1.keep g10 (by omega)
            have g11 : Frm (fun _ => False) w w10 := H9.out.2.2.toNew g10 hx
            have c010 : w10.cell? ⟨p, off + i * 2, none⟩ = some (.int .u8 (y.k : Nat)) := by
              rw [World.cell?_of_block (a := ⟨p, off + i * 2, none⟩) (g10.block p (World.block_lt_of_cell? w9 _ c09) (fun e => ?_))]
              · exact c09
              · have hp := (HA.out i hlt)
                obtain ⟨p', off', e', hat'⟩ := hp
                cases e'
                have := hat'.lt
                omega
            have H10 := Lib.hid (And.intro hda (And.intro hdb (And.intro hbq g11)))
            have cz := hbq.cell y.k (zsArr_at (lastN L i) y.k hk256)
            have fz := hbq.free y.k
            clear hda hdb hbq g11 g10 c09 c0
            refine hK _ _ ?_
            clear hK K
            try simp only [Act.put, List.setIfInBounds_toArray, List.set_cons_zero, List.set_cons_succ]
            refine wpTail.cons rfl rfl (fun K hK => ?_)
            unfold Oper.wp execOp
            go_simp
            refine hK _ _ ?_
            clear hK K
            try simp only [Act.put, List.setIfInBounds_toArray, List.set_cons_zero, List.set_cons_succ]
            refine wpTail.done ?_
            have hki : (y.k : Int) < 256 := by omega
            have hk0 : (0 : Int) ≤ (y.k : Int) := by omega
            go_wp2_with fail
            go_roundw
            case rel =>
              have gs : Frm (· = qv) w10 (w10.setCell ⟨qv, y.k, none⟩ (.int .i64 ((i : Int) + 1))) := (Frm.refl (· = qv) w10).setCell (p := ⟨qv, y.k, none⟩) (fun _ => rfl) _
              have hb9 := H10.out.2.2.1.set y.k (.int .i64 ((i : Int) + 1))
              have e9 : (zsArr (lastN L i)).setIfInBounds y.k (.int .i64 ((i : Int) + 1)) = zsArr (lastN L (i + 1)) := by
                rw [show ((i : Int) + 1) = ((i + 1 : Nat) : Int) by omega, zsArr_set, HY.out.2.2]
              rw [e9] at hb9
              refine ⟨i + 1, by omega, by go_num, H10.out.1.keep gs (by omega) (by omega) (by omega), H10.out.2.1.keep gs (by omega) (by omega) (by omega), hb9, fun j hj hji => ?_, H10.out.2.2.2.toNew gs (by omega)⟩
              by_cases e : j = i
              · subst e
                rw [HY.out.1]
                exact h64
              · exact HD.out.2.2.2.1 j hj (by omega)
            case measure => simp [intOf]; omega
          · have hz64 : (64 : Int) < ((bs y.s).size : Int) := by rw [bs_size]; omega
            go_wp2_with fail
            refine (HW.out _).mono ?_
            rintro e w3 ⟨rfl, g3⟩
            have G3 := Lib.hid (HD.out.2.2.2.2.trans g3)
            clear g3
            go_wp2_with fail
            go_ret
            exact ⟨rfl, G3.out⟩
        · obtain rfl : i = L.length := by omega
          have HD := Lib.hid (And.intro hda (And.intro hdb (And.intro hbq (And.intro hall gr))))
          clear hda hdb hbq hall gr
          go_wp2_with fail
          go_loopw [9] (fun i wr => ∃ p : Nat, p ≤ L.length ∧ i = .int .i64 ((p : Int) - 1) ∧ DevM wr b f x (aD L L.length) ∧ DevM wr b2 f2 x2 (bD L p) ∧ Blk wr qv 62 (zsArr (lastN L L.length)) ∧ Frm (fun _ => False) w wr) (fun i _ => (intOf i + 1).toNat)
          case atStart => exact ⟨L.length, Nat.le_refl _, rfl, HD.out.1, by rw [bD_top]; exact HD.out.2.1, HD.out.2.2.1, HD.out.2.2.2.2⟩
          case round =>
            obtain ⟨j, hj, rfl, hda, hdb, hbq, gr⟩ := hrel
            have HE := Lib.hid (And.intro hda (And.intro hdb (And.intro hbq gr)))
            clear hda hdb hbq gr
            cases j with
            | zero =>
              have hneg : ¬ (0 : Int) ≤ ((0 : Nat) : Int) - 1 := by omega
              go_wp2_with fail
              have hE0 := HE.out.2.1
              rw [bD_zero] at hE0
              have HF := Lib.hid (And.intro HE.out.1 (And.intro hE0 HE.out.2.2.2))
              clear hE0 HE hneg
              go_loopw [10] (fun i wr => ∃ r : Nat, r ≤ 2 ∧ i = .int .i64 r ∧ DevM wr b f x ((aD L L.length).crashes cs r) ∧ DevM wr b2 f2 x2 ((aD L L.length).crashes cs r) ∧ Frm (fun _ => False) w wr) (fun i _ => 2 - (intOf i).toNat)
              case atStart => exact ⟨0, by omega, rfl, HF.out.1, HF.out.2.1, HF.out.2.2⟩
              case round =>
                obtain ⟨r, hr, rfl, hda, hdb, gr⟩ := hrel
                obtain ⟨D, hD⟩ : ∃ D, (aD L L.length).crashes cs r = D := ⟨_, rfl⟩
                rw [hD] at hda hdb
                have hDn : D.n = 256 := by
                  rw [← hD]
                  clear hD hda hdb
                  induction r with
                  | zero => rfl
                  | succ r ih => exact ih (by omega)
                have HG := Lib.hid (And.intro hda (And.intro hdb (And.intro gr (And.intro hD hDn))))
                by_cases hr2 : r < 2
                · have hri : (r : Int) < 2 := by omega
                  have HR1 := Lib.hid (fresh_any b f x D wr hda)
                  clear hda hdb gr hD hDn
                  go_wp2_with fail
                  refine HR1.out.mono ?_
                  rintro e w11 ⟨u1, rfl, hu1, _, g11⟩
                  obtain ⟨au, cu, rfl, hc1, hc2⟩ := hu1.zs.slice
                  have HR2 := Lib.hid (fresh_any b2 f2 x2 D w11 (HG.out.2.1.keepF g11))
                  have G11 := Lib.hid g11
                  clear hu1 g11 HR1
                  go_wp2_with fail
                  refine HR2.out.mono ?_
                  rintro e w12 ⟨u2, rfl, hu2, _, g12⟩
                  obtain ⟨au2, cu2, rfl, hc3, hc4⟩ := hu2.zs.slice
                  have G12 := Lib.hid (G11.out.trans g12)
                  clear hu2 g12 HR2
                  go_wp2_with fail
                  go_loopw [13] (fun i wr => ∃ k : Nat, k ≤ 256 ∧ i = .int .i64 k ∧ Frm (fun _ => False) w12 wr) (fun i _ => 256 - (intOf i).toNat)
                  case atStart => exact ⟨0, Nat.zero_le _, rfl, Frm.refl _ _⟩
                  case round =>
                    obtain ⟨k, hk, rfl, gq⟩ := hrel
                    by_cases hlt : k < 256
                    · have hki : (k : Int) < 256 := by omega
                      have hz : Z64 (k : Int) := by unfold Z64; omega
                      have hbad : D.bad (k : Int) = false := decide_eq_false (by have := HG.out.2.2.2.2; omega)
                      have hR1 : ∀ W, Frm (fun _ => False) w12 W → Calls Try.prog 26 #[.pointer (some ⟨b, 0, none⟩), .int .i64 (k : Int)] W fun e w' => e = .returned (.tuple #[.string (bs (D.read k)), .int .i64 0]) ∧ Frm (fun _ => False) W w' := fun W g => by
                        have := read_any b f x D (k : Int) W (HG.out.1.keepF (G12.out.trans g)) hz
                        rw [hbad] at this
                        exact this
                      have hR2 : ∀ W, Frm (fun _ => False) w12 W → Calls Try.prog 26 #[.pointer (some ⟨b2, 0, none⟩), .int .i64 (k : Int)] W fun e w' => e = .returned (.tuple #[.string (bs (D.read k)), .int .i64 0]) ∧ Frm (fun _ => False) W w' := fun W g => by
                        have := read_any b2 f2 x2 D (k : Int) W (HG.out.2.1.keepF (G12.out.trans g)) hz
                        rw [hbad] at this
                        exact this
                      obtain ⟨rd, hrd⟩ : ∃ rd, D.read k = rd := ⟨_, rfl⟩
                      rw [hrd] at hR1 hR2
                      have GQ := Lib.hid gq
                      have HR1 := Lib.hid (hR1 wr gq)
                      have HR2 := Lib.hid hR2
                      clear hR1 hR2 hrd gq hbad hz
                      go_wp2_with fail
                      refine HR1.out.mono ?_
                      rintro e w13 ⟨rfl, g13⟩
                      have G13 := Lib.hid (GQ.out.trans g13)
                      clear g13
                      go_wp2_with fail
                      refine (HR2.out _ G13.out).mono ?_
                      rintro e w14 ⟨rfl, g14⟩
                      have G14 := Lib.hid (G13.out.trans g14)
                      clear g14
                      go_wp2_with fail
                      go_roundw
                      case rel => exact ⟨k + 1, by omega, by go_num, G14.out⟩
                      case measure => simp [intOf]; omega
                    · obtain rfl : k = 256 := by omega
                      have gA := G12.out.trans gq
                      have gW := HG.out.2.2.1.trans gA
                      have HK := Lib.hid (crash_any b f x D _ cs wr (HG.out.1.keepF gA) (HZ.out.1.keepF gW) HZ.out.2 (by omega) (HZ.out.1.low.imp id fun h q e => by have := h q e; omega))
                      have HH := Lib.hid (And.intro (HG.out.2.1.keepF gA) gW)
                      clear gA gW gq
                      go_wp2_with fail
                      refine HK.out.mono ?_
                      rintro e w13 ⟨rfl, hda, g13⟩
                      have hdb := HH.out.1.keep g13 (by omega) (by omega) (by omega)
                      have gW := HH.out.2.addTwo g13 hf hx
                      have HK2 := Lib.hid (crash_any b2 f2 x2 D _ cs w13 hdb (HZ.out.1.keepF gW) HZ.out.2 (by omega) (HZ.out.1.low.imp id fun h q e => by have := h q e; omega))
                      have HI := Lib.hid (And.intro hda gW)
                      clear hda hdb gW g13 HK
                      go_wp2_with fail
                      refine HK2.out.mono ?_
                      rintro e w14 ⟨rfl, hdb, g14⟩
                      have hda := HI.out.1.keep g14 (by omega) (by omega) (by omega)
                      have gW := HI.out.2.addTwo g14 (by omega) (by omega)
                      have hDc : D.crash cs = (aD L L.length).crashes cs (r + 1) := by rw [← HG.out.2.2.2.1]; rfl
                      rw [hDc] at hda hdb
                      clear g14 HK2 hDc
                      go_wp2_with fail
                      go_roundw
                      case rel => exact ⟨r + 1, by omega, by go_num, hda, hdb, gW⟩
                      case measure => simp [intOf]; omega
                · obtain rfl : r = 2 := by omega
                  have hcr : D.fresh = [] := by rw [← hD]; exact DV.crash_fresh _ _
                  have HR1 := fresh_any b f x D wr hda
                  unfold FreshTo at HR1
                  rw [hcr] at HR1
                  have HR1 := Lib.hid HR1
                  clear hda hdb gr hD hDn hcr
                  go_wp2_with fail
                  refine HR1.out.mono ?_
                  rintro e w11 ⟨u1, rfl, hu1, _, g11⟩
                  obtain ⟨au, cu, rfl, hc1, hc2⟩ := hu1.zs.slice
                  have G11 := Lib.hid (HG.out.2.2.1.trans g11)
                  clear hu1 g11 HR1
                  go_wp2_with fail
                  refine (HW.out _).mono ?_
                  rintro e w12 ⟨rfl, g12⟩
                  have G12 := Lib.hid (G11.out.trans g12)
                  clear g12
                  go_wp2_with fail
                  go_ret
                  exact ⟨rfl, G12.out⟩
            | succ j =>
              have hj1 : (((j + 1 : Nat) : Int) - 1) = (j : Int) := by omega
              rw [hj1]
              have hji : (0 : Int) ≤ (j : Int) := by omega
              obtain ⟨p, off, rfl, hat0⟩ := HA.out j (by omega)
              have hat := hat0.keepF HE.out.2.2.2
              have hws := bD_write L j (by omega)
              have hsk := bD_skip L j (by omega)
              have hall := HD.out.2.2.2.1 j (by omega) (by omega)
              obtain ⟨y, hy⟩ : ∃ y, L[j] = y := ⟨_, rfl⟩
              rw [hy] at hat hws hsk hall
              have c0 := hat.c0
              have c1 := hat.c1
              have hk256 := hat.k
              have cq := HE.out.2.2.1.cell y.k (zsArr_at (lastN L L.length) y.k hk256)
              obtain ⟨l, hl⟩ : ∃ l, lastN L L.length y.k = l := ⟨_, rfl⟩
              rw [hl] at hws hsk cq
              have hki : (y.k : Int) < 256 := by omega
              have hk0 : (0 : Int) ≤ (y.k : Int) := by omega
              have hlj : (j : Int) < (L.length : Int) := by omega
              have hwj : IntKind.i64.wrap ((j : Int) + 1) = (j : Int) + 1 := by rw [IntKind.wrap_i64]; omega
              have HY := Lib.hid (And.intro hws (And.intro hsk hall))
              have hwk : IntKind.i64.wrap (y.k : Int) = (y.k : Int) := by rw [IntKind.wrap_i64]; omega
              clear hat0 hat hws hsk hall hy hl
              by_cases hlj2 : l = j + 1
              · have hbe : ((l : Int) == (j : Int) + 1) = true := by rw [beq_iff_eq]; omega
                go_upto_region 16 with fail
                refine wp_region_tail 23 2 (fun w' => w'.cell? ⟨p, off + j * 2, none⟩ = some (.int .u8 (y.k : Nat)) ∧ w'.cell? ⟨p, off + j * 2 + 1, none⟩ = some (.string (bs y.s)) ∧ w'.cell? ⟨qv, y.k, none⟩ = some (.int .i64 (l : Nat)) ∧ Frm (fun _ => False) wr w') (by kernel_rfl) rfl rfl (by kernel_rfl) (by kernel_rfl) (by kernel_rfl) (by kernel_rfl) (⟨c0, c1, cq, (Frm.refl _ wr).drew⟩) ?_
                repeat' first
                  | (refine CanonL.skip (by rfl) ?_; (try simp only [Act.put, List.setIfInBounds_toArray, List.set_cons_zero, List.set_cons_succ]))
                  | (refine CanonL.val (v := ?_) (by rfl) ?_ ?_; rotate_left 1; (focus (intro w hSw; (try dsimp only at hSw); go_simp; (try (with_reducible rfl)); done)); (try simp only [Act.put, List.setIfInBounds_toArray, List.set_cons_zero, List.set_cons_succ]))
                refine CanonL.done ?_
                intro w9 hS9
                obtain ⟨_, _, _, g9⟩ := hS9
                have HWP := Lib.hid (write_page b2 f2 x2 (bD L (j + 1)) y.k y.s w9 (HE.out.2.1.keepF g9) rfl hk256 HY.out.2.2)
                have H9 := Lib.hid (And.intro (HE.out.1.keepF g9) (And.intro (HE.out.2.2.1.keep g9 (fun h => h)) (HE.out.2.2.2.trans g9)))
                clear g9
                refine wpTail.consG rfl (by rfl) (fun K hK => ?_)
                unfold Oper.wp execOp
                go_simp
                with_reducible refine HWP.out.mono ?_
                rintro e w10 ⟨rfl, hdb, g10⟩
                rw [HY.out.1 hlj2] at hdb
                have H10 := Lib.hid (And.intro (H9.out.1.keep g10 (by omega) (by omega) (by omega)) (And.intro hdb (And.intro (H9.out.2.1.keep g10 (by omega)) (H9.out.2.2.toNew g10 (by omega)))))
                clear hdb g10
                refine hK _ _ ?_
                clear hK K
                try simp only [Act.put, List.setIfInBounds_toArray, List.set_cons_zero, List.set_cons_succ]
                refine wpTail.consG rfl (by rfl) (fun K hK => ?_)
                unfold Oper.wp execOp
                go_simp
                refine hK _ _ ?_
                clear hK K
                try simp only [Act.put, List.setIfInBounds_toArray, List.set_cons_zero, List.set_cons_succ]
                refine wpTail.cons rfl rfl (fun K hK => ?_)
                unfold Oper.wp execOp
                go_simp
                refine hK _ _ ?_
                clear hK K
                try simp only [Act.put, List.setIfInBounds_toArray, List.set_cons_zero, List.set_cons_succ]
                refine wpTail.done ?_
                go_wp2_with fail
                go_roundw
                case rel => exact ⟨j, by omega, rfl, H10.out.1, H10.out.2.1, H10.out.2.2.1, H10.out.2.2.2⟩
                case measure => simp [intOf]
              · have hbe : ((l : Int) == (j : Int) + 1) = false := by rw [beq_eq_false_iff_ne]; omega
                have hbn : ¬ (l : Int) = (j : Int) + 1 := by omega
                have hsk := HY.out.2.1 hlj2
                go_upto_region 16 with fail
                refine wp_region_canon (fun w' => w'.cell? ⟨p, off + j * 2, none⟩ = some (.int .u8 (y.k : Nat)) ∧ w'.cell? ⟨qv, y.k, none⟩ = some (.int .i64 (l : Nat)) ∧ Frm (fun _ => False) wr w') (by kernel_rfl) rfl (by kernel_rfl) (by kernel_rfl) (⟨c0, cq, (Frm.refl _ wr).drew⟩) ?_
                repeat' first
                  | (refine CanonL.skip (by rfl) ?_; (try simp only [Act.put, List.setIfInBounds_toArray, List.set_cons_zero, List.set_cons_succ]))
                  | (refine CanonL.val (v := ?_) (by rfl) ?_ ?_; rotate_left 1; (focus (intro w hSw; (try dsimp only at hSw); go_simp; (try (with_reducible rfl)); done)); (try simp only [Act.put, List.setIfInBounds_toArray, List.set_cons_zero, List.set_cons_succ]))
                refine CanonL.done ?_
                intro w9 hS9
                obtain ⟨_, _, g9⟩ := hS9
                have H9 := Lib.hid (And.intro (HE.out.1.keepF g9) (And.intro (hsk ▸ HE.out.2.1.keepF g9) (And.intro (HE.out.2.2.1.keep g9 (fun h => h)) (HE.out.2.2.2.trans g9))))
                clear g9 hsk
                go_wp2_with fail
                go_roundw
                case rel => exact ⟨j, by omega, rfl, H9.out.1, H9.out.2.1, H9.out.2.2.1, H9.out.2.2.2⟩
                case measure => simp [intOf]
    · have hl2 : (20 : Int) < (cs.length : Int) := by omega
      go_wp2_with fail
      refine (HW.out _).mono ?_
      rintro e w3 ⟨rfl, g3⟩
      have G3 := Lib.hid (H2.out.2.2.trans g3)
      clear g3
      go_wp2_with fail
      go_ret
      exact ⟨rfl, G3.out⟩
  · have hl2 : (60 : Int) < (L.length : Int) := by omega
    go_wp2_with fail
    refine (HW.out _).mono ?_
    rintro e w3 ⟨rfl, g3⟩
    have G3 := Lib.hid (H2.out.2.2.trans g3)
    clear g3
    go_wp2_with fail
    go_ret
    exact ⟨rfl, G3.out⟩
end Go.Proofs.Ytnhihadnaiaojaa
