/- A life of WalWhole is gone through. No condition. -/
import Derived.Test.YtddjkbpgaenpgaaGreatLateG
namespace Go.Proofs.YtddjkbpgaenpgaaGreat
open Go.RowKit Go.Shelf

/-- Behind did. -/
def LvB (w0 : World) (z q r0 l b f x K g0 : Nat) (L0 : LV) (j : Nat) (bq : Bool) (W : World) : Prop := (bq = true ∧ LvA w0 z q r0 l b f x K g0 L0 j W) ∨ (bq = false ∧ LvD w0 z q r0 l b f x K g0 L0 W)
theorem LvB.frm {w0 W : World} {z q r0 l b f x K g0 j : Nat} {L0 : LV} {bq : Bool} (h : LvB w0 z q r0 l b f x K g0 L0 j bq W) : Frm (Yx z q r0 l f x) w0 W := by
  rcases h with ⟨_, g, R, L, s, gn, sure, _, _, _, _, _, _, _, h, _⟩ | ⟨_, L, sure, may, s, gn, gs, _, _, _, _, _, _, h, _⟩
  · exact h
  · exact h
theorem LvA.frm {w0 W : World} {z q r0 l b f x K g0 j : Nat} {L0 : LV} (h : LvA w0 z q r0 l b f x K g0 L0 j W) : Frm (Yx z q r0 l f x) w0 W := LvB.frm (bq := true) (.inl ⟨rfl, h⟩)
theorem LvB.ofOr {w0 W : World} {z q r0 l b f x K g0 j : Nat} {L0 : LV} {bq : Bool} (h : (bq = true ∧ LvA w0 z q r0 l b f x K g0 L0 j W) ∨ (bq = false ∧ LvD w0 z q r0 l b f x K g0 L0 W)) : LvB w0 z q r0 l b f x K g0 L0 j bq W := h
set_option maxRecDepth 100000 in
set_option maxHeartbeats 16000000 in
theorem lives_any (z q l b f x g0 : Nat) (L0 : LV) (X : LfI) (lv cv : Value) (s gn : Nat) (sure : List (List UInt8)) (w : World)
    (hM : WlM w q l b f x ⟨128, s, gn, false⟩ none L0) (hR : Rest 128 L0.D s gn sure) (hd : L0.down = false) (hgn : gn ≤ g0) (hgl : g0 ≤ 1000000) (hac : L0.acts ≤ 700000)
    (hS : StoM w z sure none (Zk z q l f x)) (hnz : z ≠ q ∧ z ≠ l ∧ z ≠ b ∧ z ≠ f ∧ z ≠ x) (hP : L0.cs.length = 0 ∨ ∀ k, L0.P k → k ≠ z ∧ k < w.heap.size) (hX : smB X = true)
    (HT : ∀ W, Frm (Yx z q q l f x) w W → Strs W lv X.l) (hcv : Zs w cv X.cs) :
    Calls Tryz.prog 45 #[.pointer (some ⟨z, 0, none⟩), .pointer (some ⟨q, 0, none⟩), .agg (lfV X lv cv)] w fun e w' => e = .returned (.bool true) ∧ ∃ w0, Frm (fun _ => False) w w0 ∧ LvD w0 z q q l b f x w.heap.size g0 L0 w' := by
  obtain ⟨k10, _, k2000, kn2000, k300⟩ := smB_ok hX
  obtain ⟨a, cap, rfl, hc1, hc2⟩ := (HT w (Frm.refl _ _)).slice
  unfold maxLen at hc2
  obtain ⟨az, capz, rfl, _, _⟩ := hcv.slice
  obtain ⟨w1, hw1⟩ : ∃ w1, w.alloc (.cells #[.string (bs X.d), .slice a X.l.length cap, .int .u8 (X.ag : Nat), .string (bs X.nx), .int .u16 (X.cut : Nat), .slice az X.cs.length capz] 82) = w1 := ⟨_, rfl⟩
  have g1 : Frm (fun _ => False) w w1 := by rw [← hw1]; exact (Frm.refl _ w).alloc _
  have b1 : Blk w1 w.heap.size 82 #[.string (bs X.d), .slice a X.l.length cap, .int .u8 (X.ag : Nat), .string (bs X.nx), .int .u16 (X.cut : Nat), .slice az X.cs.length capz] := by rw [← hw1]; exact Blk.alloc w _ _
  have z1 : w1.heap.size = w.heap.size + 1 := by rw [← hw1]; simp
  have hzl := hS.lt
  have hql := hM.qlt
  have hll := hM.ln.lt
  have hE : Env w1 z q q l b f x w.heap.size L0 := ⟨by omega, ⟨hnz.1, hnz.2.1, hnz.2.2.1, hnz.2.2.2.1, hnz.2.2.2.2, fun e => hnz.1 e.symm⟩, hP⟩
  have hBY : ¬ Yx z q q l f x w.heap.size := fun h => by unfold Yx WlX LnX at h; omega
  have HBx := Lib.hid (fun (W : World) (gW : Frm (Yx z q q l f x) w1 W) => b1.keep gW hBY)
  have HTx := Lib.hid (fun (W : World) (gW : Frm (Yx z q q l f x) w1 W) => HT W ((g1.mono fun _ _ h => h.elim : Frm (Yx z q q l f x) w w1).trans gW))
  have HE := Lib.hid hE
  have HK := Lib.hid (And.intro k10 (And.intro k2000 (And.intro kn2000 k300)))
  have HG1 := Lib.hid g1
  have HR := Lib.hid (And.intro hR (And.intro hd (And.intro hgn (And.intro hgl hac))))
  have HCk := Lib.hid (fun (W : World) (gW : Frm (fun _ => False) w1 W) => wcheck_any q l b f x ⟨128, s, gn, false⟩ none L0 X.d W ((hM.keepF g1).keepF gW) rfl (by show X.d.length ≤ 58 * 127; omega) (by omega) (hP.imp id fun u k hk => by have := (u k hk).2; have := g1.size; have := gW.size; omega) (by show gn + 1 < 4294967296; omega))
  have HAC := Lib.hid (And.intro hac hgl)
  have HS := Lib.hid (fun (W : World) (gW : Frm (fun _ => False) w1 W) => (hS.keepF g1).keepF gW)
  have HB1 : Hid (∀ (W0 W1 : World) (e : Ending), Frm (fun _ => False) w1 W0 → CkTo q l b f x ⟨128, s, gn, false⟩ none (anR L0 ((1 - s) * 128) 128 (gn + 1) X.d) W0 e W1 → ∃ c : Nat, e = .returned (.int .i64 (c : Nat)) ∧ Frm (WlX q l f x) W0 W1 ∧
      ∀ W v, Frm (fun _ => False) W1 W → OwnS W v [X.d] → (∀ k, v.ownBlock = some k → (k < W0.heap.size ∨ W1.heap.size ≤ k) ∧ ¬ Zk z q l f x k) → Bth w1 z q q l b f x w.heap.size g0 L0 0 [X.d] c v W) := Lib.hid fun W0 W1 e gW hT =>
    ck_bth (j := 0) hE (Ls.refl L0 _) (by omega) hR hd k2000 (by omega) hgl (HS.out W0 gW) (gW.mono fun _ _ h => h.elim) (by have := g1.size; have := gW.size; omega) hT
  have HZ := Lib.hid (And.intro (And.intro hzl (And.intro hql hll)) z1)
  clear hM hR hd hgn hgl hac hS hP hX HT hcv hE k10 k2000 kn2000 k300 hBY g1 b1 z1 hzl hql hll hnz
  unfold lfV
  go_enter Tryz.func45, Tryz.ntmps45
  go_upto_region 1 with fail
  clear hw1
  go_cut [17] (fun s17 W => ∃ bq : Bool, s17 = .bool (!bq) ∧ LvB w1 z q q l b f x w.heap.size g0 L0 0 bq W)
  case first =>
    have HW0 := Lib.hid (Frm.refl (fun _ => False) w1).drew
    have HD0 := Lib.hid (HBx.out w1.drew (HW0.out.mono fun _ _ h => h.elim))
    refine wp_region_freeO [0, 1, 2, 3, 5, 6] [4, 7, 8, 9] (fun W => W.cell? ⟨w.heap.size, 0, none⟩ = some (.string (bs X.d)))
      (fun i => ([.pointer (some ⟨z, 0, none⟩), .pointer (some ⟨q, 0, none⟩), .pointer (some ⟨w.heap.size, 0, none⟩), .string (bs X.d), undef, .pointer (some ⟨w.heap.size, 0, none⟩), .string (bs X.d)] : List Value).getD i undef)
      (by kernel_rfl) rfl (by rfl) rfl (by kernel_rfl) (by kernel_rfl) (by kernel_rfl) (by kernel_rfl) (by kernel_rfl) (HD0.out.cell 0 rfl) ?_ ?_
    · repeat'
        (refine ⟨by rfl, fun W hW => ?_, ?_⟩
         · skip
           go_simp
         (try simp only [Act.put, List.setIfInBounds_toArray, List.set_cons_zero, List.set_cons_succ]))
      trivial
    · simp only [aP, Act.put, List.setIfInBounds_toArray, List.set_cons_zero, List.set_cons_succ, List.getD_cons_zero, List.getD_cons_succ]
      obtain ⟨wd, hwd⟩ : ∃ wd, w1.drew = wd := ⟨_, rfl⟩
      rw [hwd]
      have HW0 : Hid (Frm (fun _ => False) w1 wd) := by rw [← hwd]; exact HW0
      clear hwd HD0
      refine wpFree.two (i := 4) (k := 7) (Mi := [7, 8, 9]) (Mk := [4, 8, 9]) (by kernel_rfl) (by rfl) (by rfl) ?_ ?_
      · refine wpOp_callD rfl rfl (by rfl) (by go_simp) ((HCk.out wd HW0.out).mono ?_)
        intro e wA hA
        obtain ⟨c, rfl, gA, hB⟩ := HB1.out wd wA e HW0.out hA
        have gYA : Frm (Yx z q q l f x) w1 wA := (HW0.out.mono fun _ _ h => h.elim).trans (gA.mono fun _ _ h => .inr (.inr h))
        refine ⟨_, rfl, (HBx.out wA (gYA)).cell 0 rfl, ?_⟩
        (try simp only [Act.put, List.setIfInBounds_toArray, List.set_cons_zero, List.set_cons_succ])
        refine wpFree.one (i := 7) (M' := [8, 9]) (by kernel_rfl) (by rfl) ?_
        refine wpOp.val rfl (by rfl) (fun K hK => ?_)
        unfold Oper.wp execOp
        go_simp
        refine hK _ _ ⟨(HBx.out _ ((gYA.trans ((Frm.refl _ wA).alloc _)))).cell 0 rfl, ?_⟩
        clear hK K
        (try simp only [Act.put, List.setIfInBounds_toArray, List.set_cons_zero, List.set_cons_succ])
        have hBt := hB (wA.alloc (.cells #[.string (bs X.d)] 9)) (.slice (some ⟨wA.heap.size, 0, none⟩) 1 1) ((Frm.refl _ wA).alloc _) (own_one wA X.d) (fun k hk => by have hk : wA.heap.size = k := Option.some.inj hk; exact ⟨.inr (by omega), fun h => by have := gA.size; have := HW0.out.size; have := HZ.out; unfold Zk WlX LnX at h; omega⟩)
        refine wpFree.one (i := 8) (M' := [9]) (by kernel_rfl) (by rfl) ?_
        refine wpOp_callD rfl rfl (by rfl) (by go_simp) ((bth_did HE.out hBt).mono ?_)
        rintro e wD ⟨bq, rfl, hBq⟩
        have hBq := LvB.ofOr hBq
        refine ⟨_, rfl, (HBx.out wD (hBq.frm)).cell 0 rfl, ?_⟩
        (try simp only [Act.put, List.setIfInBounds_toArray, List.set_cons_zero, List.set_cons_succ])
        clear hBt gYA gA hB
        have HD := Lib.hid hBq
        clear hBq
        refine wpFree.one (i := 9) (M' := []) (by kernel_rfl) (by rfl) ?_
        refine wpOp.val rfl (by rfl) (fun K hK => ?_)
        unfold Oper.wp execOp
        go_simp
        refine hK _ _ ⟨(HBx.out wD (HD.out.frm)).cell 0 rfl, ?_⟩
        clear hK K
        (try simp only [Act.put, List.setIfInBounds_toArray, List.set_cons_zero, List.set_cons_succ])
        refine wpFree.done ?_
        go_wp2_with fail
        go_meet
        exact ⟨bq, rfl, HD.out⟩
      · refine wpOp.val rfl (by rfl) (fun K hK => ?_)
        unfold Oper.wp execOp
        go_simp
        have gP : Frm (fun _ => False) (wd) ((wd).alloc (.cells #[.string (bs X.d)] 9)) := (Frm.refl _ _).alloc _
        have ho := own_one (wd) X.d
        have zP : ((wd).alloc (.cells #[.string (bs X.d)] 9)).heap.size = (wd).heap.size + 1 := by simp
        obtain ⟨wP, hwP⟩ : ∃ wP, (wd).alloc (.cells #[.string (bs X.d)] 9) = wP := ⟨_, rfl⟩
        rw [hwP] at gP ho zP ⊢
        have gYP := (HW0.out.mono fun _ _ h => h.elim).trans (gP.mono fun _ _ h => h.elim : Frm (Yx z q q l f x) _ wP)
        refine hK _ _ ⟨(HBx.out wP (gYP)).cell 0 rfl, ?_⟩
        clear hK K hwP
        (try simp only [Act.put, List.setIfInBounds_toArray, List.set_cons_zero, List.set_cons_succ])
        refine wpFree.one (i := 4) (M' := [8, 9]) (by kernel_rfl) (by rfl) ?_
        refine wpOp_callD rfl rfl (by rfl) (by go_simp) ((HCk.out wP (HW0.out.trans gP)).mono ?_)
        intro e wA hA
        obtain ⟨c, rfl, gA, hB⟩ := HB1.out wP wA e (HW0.out.trans gP) hA
        have gYA : Frm (Yx z q q l f x) w1 wA := gYP.trans (gA.mono fun _ _ h => .inr (.inr h))
        refine ⟨_, rfl, (HBx.out wA (gYA)).cell 0 rfl, ?_⟩
        (try simp only [Act.put, List.setIfInBounds_toArray, List.set_cons_zero, List.set_cons_succ])
        have hBt := hB wA (.slice (some ⟨(wd).heap.size, 0, none⟩) 1 1) (Frm.refl _ _) (ho.keep gA (fun k hk h => by have hk : (wd).heap.size = k := Option.some.inj hk; have := HW0.out.size; have := HZ.out; unfold WlX LnX at h; omega)) (fun k hk => by have hk : (wd).heap.size = k := Option.some.inj hk; exact ⟨.inl (by omega), fun h => by have := HW0.out.size; have := HZ.out; unfold Zk WlX LnX at h; omega⟩)
        refine wpFree.one (i := 8) (M' := [9]) (by kernel_rfl) (by rfl) ?_
        refine wpOp_callD rfl rfl (by rfl) (by go_simp) ((bth_did HE.out hBt).mono ?_)
        rintro e wD ⟨bq, rfl, hBq⟩
        have hBq := LvB.ofOr hBq
        refine ⟨_, rfl, (HBx.out wD (hBq.frm)).cell 0 rfl, ?_⟩
        (try simp only [Act.put, List.setIfInBounds_toArray, List.set_cons_zero, List.set_cons_succ])
        clear hBt gYA gA hB
        clear ho gP gYP zP
        have HD := Lib.hid hBq
        clear hBq
        refine wpFree.one (i := 9) (M' := []) (by kernel_rfl) (by rfl) ?_
        refine wpOp.val rfl (by rfl) (fun K hK => ?_)
        unfold Oper.wp execOp
        go_simp
        refine hK _ _ ⟨(HBx.out wD (HD.out.frm)).cell 0 rfl, ?_⟩
        clear hK K
        (try simp only [Act.put, List.setIfInBounds_toArray, List.set_cons_zero, List.set_cons_succ])
        refine wpFree.done ?_
        go_wp2_with fail
        go_meet
        exact ⟨bq, rfl, HD.out⟩
  case rest =>
    obtain ⟨bq, rfl, hB⟩ := hcut
    clear HCk HB1 HS HR
    cases bq with
    | false =>
      have HD := Lib.hid (show LvD w1 z q q l b f x w.heap.size g0 L0 wc from by
        rcases hB with ⟨h, _⟩ | ⟨_, h⟩
        · cases h
        · exact h)
      clear hB
      go_wp2_with fail
      go_ret
      exact ⟨rfl, w1, HG1.out, HD.out⟩
    | true =>
      have HA := Lib.hid (show LvA w1 z q q l b f x w.heap.size g0 L0 0 wc from by
        rcases hB with ⟨_, h⟩ | ⟨h, _⟩
        · exact h
        · cases h)
      have cB0 := (HBx.out wc HA.out.frm).cell 1 rfl
      clear hB
      go_wp2_with fail
      clear cB0
      go_loopw [7] (fun i wr => ∃ k j : Nat, k ≤ X.l.length ∧ i = .int .i64 k ∧ (j = k ∨ (j = k + 1 ∧ X.ag % 10 < k)) ∧ LvA w1 z q q l b f x w.heap.size g0 L0 j wr) (fun i _ => X.l.length - (intOf i).toNat)
      case atStart => exact ⟨0, 0, Nat.zero_le _, rfl, .inl rfl, HA.out⟩
      case round =>
        obtain ⟨k, j, hk, rfl, hj, hA⟩ := hrel
        have HAr := Lib.hid hA
        have c1 := (HBx.out wr hA.frm).cell 1 rfl
        have HJ := Lib.hid hj
        clear hA hj HA
        by_cases hlt : k < X.l.length
        · obtain ⟨gt, off, rfl, _, ct⟩ := Strs.at (HTx.out wr HAr.out.frm) k hlt
          have hki : (k : Int) < (X.l.length : Int) := by omega
          have hj10 : j ≤ 10 := by have := HK.out.1; have := HJ.out; omega
          obtain ⟨t, hte⟩ : ∃ t, X.l[k] = t := ⟨_, rfl⟩
          rw [hte] at ct
          have ht300 : t.length ≤ 300 := by have := HK.out.2.2.2 k hlt; rw [hte] at this; exact this
          have hst : ((bs t).size : Int) = (t.length : Int) := by simp [bs, ByteArray.size]
          have HSx := Lib.hid (show ∀ W, Frm (Yx z q q l f x) w1 W → W.cell? ⟨w.heap.size, 1, none⟩ = some (.slice (some ⟨gt, off, none⟩) X.l.length cap) ∧ W.cell? ⟨gt, off + k, none⟩ = some (.string (bs t)) from fun W gW => by
            refine ⟨(HBx.out W gW).cell 1 rfl, ?_⟩
            obtain ⟨g', off', e, _, c⟩ := Strs.at (HTx.out W gW) k hlt
            cases e
            rw [hte] at c
            exact c)
          obtain ⟨g, R, L, s', gn', sure', q1, q2, q3, q4, q5, q6, q7, q8, q9, q10⟩ := HAr.out
          have hfit : needs t.length ≤ R.left := by
            have := q2.st.used
            have := q2.rn
            unfold RV.left needs
            omega
          have HFt := wfits_any q l b f x g ⟨128, s', gn', false⟩ R L (t.length : Nat) wr q1.wl.blk q1.rg rfl (by unfold Z64; omega)
          rw [Int.toNat_natCast, decide_eq_true hfit] at HFt
          have HFt := Lib.hid HFt
          have q4' := Lib.hid q4
          obtain ⟨sv, mv, o1, o2, o3, o4⟩ := q4
          have hPr : ∀ W, Frm (fun _ => False) wr W → L.cs.length = 0 ∨ ∀ k, L.P k → k < W.heap.size := fun W gW => by
            rw [q3.P, q3.cs]
            exact HE.out.np.imp id fun u k hk => by have := (u k hk).2; have := gW.size; omega
          have hacL : L.acts ≤ 800000 := by have := q3.acts; have := HAC.out; omega
          have HCm := Lib.hid (fun (W : World) (gW : Frm (fun _ => False) wr W) => wcommit_any q l b f x g ⟨128, s', gn', false⟩ R L t W (q1.keepF gW) rfl hfit (by omega) hacL (hPr W gW))
          have HB1 : Hid (∀ (W0 W1 : World) (e : Ending), Frm (fun _ => False) wr W0 → CmTo q l b f x g ⟨128, s', gn', false⟩ (cmR R L t) W0 e W1 → ∃ c : Nat, e = .returned (.int .i64 (c : Nat)) ∧ Frm (WgX q g l f x) W0 W1 ∧
              ∀ W v, Frm (fun _ => False) W1 W → OwnS W v (sure' ++ [t]) → (∀ k, v.ownBlock = some k → W1.heap.size ≤ k) → Bth w1 z q q l b f x w.heap.size g0 L0 (j + 1) (sure' ++ [t]) c v W) := Lib.hid fun W0 W1 e gW hT =>
            cm_bth HE.out q3 hj10 q2 hfit ht300 q5 q6 q7 (q4'.out.keepF gW) (q8.trans (gW.mono fun _ _ h => h.elim)) (Nat.le_trans q10 gW.size) q9 hT
          have HYc : Hid (∀ W0 W1, Frm (fun _ => False) wr W0 → Frm (WgX q g l f x) W0 W1 → Frm (Yx z q q l f x) w1 W1 ∧ OwnS W1 sv sure' ∧ W1.cell? ⟨z, 0, none⟩ = some sv) := Lib.hid fun W0 W1 gW gC => by
            have nz : ¬ WgX q g l f x z := fun hX => by
              have h1 := HE.out.nz
              have h2 := HE.out.gz q9
              unfold WgX RgX LnX at hX
              omega
            refine ⟨(q8.trans (gW.mono fun _ _ h => h.elim)).next gC fun k hk hX => ?_, (o2.keep gW (fun _ _ h => h)).keep gC (fun k hk hX => o3 k hk (.inr hX)), ((o1.keep gW (fun h => h)).keep gC nz).cell 0 rfl⟩
            rcases hX with h | h | h
            · exact .inr (.inr (.inl h))
            · exact .inr (.inl (by rcases q9 with e | e <;> omega))
            · exact .inr (.inr (.inr h))
          have HZ0 : Hid (∀ W, Frm (fun _ => False) wr W → W.cell? ⟨z, 0, none⟩ = some sv) := Lib.hid fun W gW => (o1.keep gW (fun h => h)).cell 0 rfl
          have HWr := Lib.hid (And.intro q8 q7)
          clear q1 q2 q3 q5 q6 q7 q8 q9 q10 o1 o2 o3 o4 hfit hPr hacL hte hj10 ht300
          go_wp2_with fail
          refine HFt.out.mono ?_
          rintro e w4 ⟨rfl, g4⟩
          have HG4 := Lib.hid g4
          clear g4 c1 ct HFt hst
          go_upto_region 8 with fail
          go_cut [53] from 18 to 71 (fun s53 W => ∃ bq : Bool, s53 = .bool (!bq) ∧ LvB w1 z q q l b f x w.heap.size g0 L0 (j + 1) bq W)
          case first =>
            have HW0 := Lib.hid (HG4.out.trans (Frm.refl (fun _ => False) w4).drew)
            have HWY := Lib.hid (HWr.out.1.trans (HW0.out.mono fun _ _ h => h.elim : Frm (Yx z q q l f x) wr w4.drew))
            refine wp_region_freeO [0, 1, 2, 3, 4, 5, 6, 8, 9, 10, 12, 13, 14, 15, 16] [7, 11, 17, 18, 19] (fun W => W.cell? ⟨w.heap.size, 1, none⟩ = some (.slice (some ⟨gt, off, none⟩) X.l.length cap) ∧ W.cell? ⟨gt, off + k, none⟩ = some (.string (bs t)))
              (fun i => ([.pointer (some ⟨z, 0, none⟩), .pointer (some ⟨q, 0, none⟩), .pointer (some ⟨w.heap.size, 1, none⟩), .slice (some ⟨gt, off, none⟩) X.l.length cap, .int .i64 (k : Nat), .pointer (some ⟨gt, off + k, none⟩), .string (bs t), undef, .pointer (some ⟨z, 0, none⟩), .pointer (some ⟨z, 0, none⟩), .pointer (some ⟨z, 0, none⟩), undef, .pointer (some ⟨w.heap.size, 1, none⟩), .slice (some ⟨gt, off, none⟩) X.l.length cap, .int .i64 (k : Nat), .pointer (some ⟨gt, off + k, none⟩), .string (bs t)] : List Value).getD i undef)
              (by kernel_rfl) rfl (by rfl) rfl (by kernel_rfl) (by kernel_rfl) (by kernel_rfl) (by kernel_rfl) (by kernel_rfl) (HSx.out _ HWY.out) ?_ ?_
            · repeat'
                (refine ⟨by rfl, fun W hW => ?_, ?_⟩
                 · obtain ⟨h1, h2⟩ := hW
                   go_simp
                 (try simp only [Act.put, List.setIfInBounds_toArray, List.set_cons_zero, List.set_cons_succ]))
              trivial
            · simp only [aP, Act.put, List.setIfInBounds_toArray, List.set_cons_zero, List.set_cons_succ, List.getD_cons_zero, List.getD_cons_succ]
              obtain ⟨wd, hwd⟩ : ∃ wd, w4.drew = wd := ⟨_, rfl⟩
              rw [hwd]
              have HW0 : Hid (Frm (fun _ => False) wr wd) := by rw [← hwd]; exact HW0
              have HWY : Hid (Frm (Yx z q q l f x) w1 wd) := by rw [← hwd]; exact HWY
              clear hwd HG4
              refine wpFree.two (i := 7) (k := 11) (Mi := [11, 17, 18, 19]) (Mk := [7, 17, 18, 19]) (by kernel_rfl) (by rfl) (by rfl) ?_ ?_
              · skip
                refine wpOp_callD rfl rfl (by rfl) (by go_simp) ((HCm.out wd HW0.out).mono ?_)
                intro e wA hA
                obtain ⟨c, rfl, gA, hB⟩ := HB1.out wd wA e HW0.out hA
                obtain ⟨gYA, hoA, czA⟩ := HYc.out wd wA HW0.out gA
                refine ⟨_, rfl, HSx.out wA (gYA), ?_⟩
                (try simp only [Act.put, List.setIfInBounds_toArray, List.set_cons_zero, List.set_cons_succ])
                refine wpFree.one (i := 11) (M' := [17, 18, 19]) (by kernel_rfl) (by rfl) ?_
                refine wpOp.val rfl (by rfl) (fun K hK => ?_)
                unfold Oper.wp execOp
                go_simp
                refine hK _ _ ⟨HSx.out wA (gYA), ?_⟩
                clear hK K
                (try simp only [Act.put, List.setIfInBounds_toArray, List.set_cons_zero, List.set_cons_succ])
                refine wpFree.one (i := 17) (M' := [18, 19]) (by kernel_rfl) (by rfl) ?_
                have HBh := Lib.hid (And.intro hB gYA)
                have HWt := with_any sv sure' t wA hoA.reads (by have := HWr.out.2; have := HJ.out; have := HK.out.1; omega)
                clear hA gA hB gYA hoA czA
                refine wpOp_callD rfl rfl (by rfl) (by go_simp) (HWt.mono ?_)
                rintro e wW ⟨v', rfl, hoW, hnW, gW⟩
                have gYW : Frm (Yx z q q l f x) w1 wW := HBh.out.2.trans (gW.mono fun _ _ h => h.elim)
                have hBt := HBh.out.1 wW v' gW hoW hnW
                refine ⟨_, rfl, HSx.out wW (gYW), ?_⟩
                clear hoW hnW gW gYW HBh HWt
                (try simp only [Act.put, List.setIfInBounds_toArray, List.set_cons_zero, List.set_cons_succ])
                refine wpFree.one (i := 18) (M' := [19]) (by kernel_rfl) (by rfl) ?_
                refine wpOp_callD rfl rfl (by rfl) (by go_simp) ((bth_did HE.out hBt).mono ?_)
                rintro e wD ⟨bq, rfl, hBq⟩
                have hBq := LvB.ofOr hBq
                refine ⟨_, rfl, HSx.out wD (hBq.frm), ?_⟩
                (try simp only [Act.put, List.setIfInBounds_toArray, List.set_cons_zero, List.set_cons_succ])
                clear hBt
                have HD := Lib.hid hBq
                clear hBq
                refine wpFree.one (i := 19) (M' := []) (by kernel_rfl) (by rfl) ?_
                refine wpOp.val rfl (by rfl) (fun K hK => ?_)
                unfold Oper.wp execOp
                go_simp
                refine hK _ _ ⟨HSx.out wD (HD.out.frm), ?_⟩
                clear hK K
                (try simp only [Act.put, List.setIfInBounds_toArray, List.set_cons_zero, List.set_cons_succ])
                refine wpFree.done ?_
                go_wp2_with fail
                go_meet
                exact ⟨bq, rfl, HD.out⟩
              · skip
                have cz := HZ0.out wd HW0.out
                refine wpOp.val rfl (by rfl) (fun K hK => ?_)
                unfold Oper.wp execOp
                go_simp
                refine hK _ _ ⟨HSx.out _ (HWY.out), ?_⟩
                clear hK K
                (try simp only [Act.put, List.setIfInBounds_toArray, List.set_cons_zero, List.set_cons_succ])
                clear cz
                refine wpFree.one (i := 7) (M' := [17, 18, 19]) (by kernel_rfl) (by rfl) ?_
                refine wpOp_callD rfl rfl (by rfl) (by go_simp) ((HCm.out wd HW0.out).mono ?_)
                intro e wA hA
                obtain ⟨c, rfl, gA, hB⟩ := HB1.out wd wA e HW0.out hA
                obtain ⟨gYA, hoA, czA⟩ := HYc.out wd wA HW0.out gA
                refine ⟨_, rfl, HSx.out wA (gYA), ?_⟩
                (try simp only [Act.put, List.setIfInBounds_toArray, List.set_cons_zero, List.set_cons_succ])
                refine wpFree.one (i := 17) (M' := [18, 19]) (by kernel_rfl) (by rfl) ?_
                have HBh := Lib.hid (And.intro hB gYA)
                have HWt := with_any sv sure' t wA hoA.reads (by have := HWr.out.2; have := HJ.out; have := HK.out.1; omega)
                clear hA gA hB gYA hoA czA
                refine wpOp_callD rfl rfl (by rfl) (by go_simp) (HWt.mono ?_)
                rintro e wW ⟨v', rfl, hoW, hnW, gW⟩
                have gYW : Frm (Yx z q q l f x) w1 wW := HBh.out.2.trans (gW.mono fun _ _ h => h.elim)
                have hBt := HBh.out.1 wW v' gW hoW hnW
                refine ⟨_, rfl, HSx.out wW (gYW), ?_⟩
                clear hoW hnW gW gYW HBh HWt
                (try simp only [Act.put, List.setIfInBounds_toArray, List.set_cons_zero, List.set_cons_succ])
                refine wpFree.one (i := 18) (M' := [19]) (by kernel_rfl) (by rfl) ?_
                refine wpOp_callD rfl rfl (by rfl) (by go_simp) ((bth_did HE.out hBt).mono ?_)
                rintro e wD ⟨bq, rfl, hBq⟩
                have hBq := LvB.ofOr hBq
                refine ⟨_, rfl, HSx.out wD (hBq.frm), ?_⟩
                (try simp only [Act.put, List.setIfInBounds_toArray, List.set_cons_zero, List.set_cons_succ])
                clear hBt
                have HD := Lib.hid hBq
                clear hBq
                refine wpFree.one (i := 19) (M' := []) (by kernel_rfl) (by rfl) ?_
                refine wpOp.val rfl (by rfl) (fun K hK => ?_)
                unfold Oper.wp execOp
                go_simp
                refine hK _ _ ⟨HSx.out wD (HD.out.frm), ?_⟩
                clear hK K
                (try simp only [Act.put, List.setIfInBounds_toArray, List.set_cons_zero, List.set_cons_succ])
                refine wpFree.done ?_
                go_wp2_with fail
                go_meet
                exact ⟨bq, rfl, HD.out⟩
          case rest =>
            obtain ⟨bq, rfl, hB⟩ := hcut
            clear HCm HB1 HYc HZ0 HWr HG4 HSx
            cases bq with
            | false =>
              have HD := Lib.hid (show LvD w1 z q q l b f x w.heap.size g0 L0 wc from by
                rcases hB with ⟨h, _⟩ | ⟨_, h⟩
                · cases h
                · exact h)
              clear hB
              go_wp2_with fail
              go_ret
              exact ⟨rfl, w1, HG1.out, HD.out⟩
            | true =>
              have HA := Lib.hid (show LvA w1 z q q l b f x w.heap.size g0 L0 (j + 1) wc from by
                rcases hB with ⟨_, h⟩ | ⟨h, _⟩
                · exact h
                · cases h)
              clear hB
              have c2 := (HBx.out wc HA.out.frm).cell 2 rfl
              obtain ⟨m, hm⟩ : ∃ m, X.ag % 10 = m := ⟨_, rfl⟩
              have hm10 : m < 10 := by omega
              have t1 : (X.ag : Int) % 10 = (m : Int) := by omega
              have t1' : (X.ag : Int).tmod 10 = (m : Int) := by rw [Int.tmod_eq_emod_of_nonneg (by omega)]; exact t1
              have t3 : IntKind.u8.wrap (m : Int) = (m : Int) := IntWalk.u8_in _ (by omega)
              have t4 : IntKind.i64.wrap (m : Int) = (m : Int) := IntWalk.i64_in _ (by omega)
              by_cases hkm : k = m
              · obtain rfl := hkm
                have hjk : j = k := by have := HJ.out; omega
                have c3 := (HBx.out wc HA.out.frm).cell 3 rfl
                have HSx := Lib.hid (show ∀ W, Frm (Yx z q q l f x) w1 W → W.cell? ⟨w.heap.size, 2, none⟩ = some (.int .u8 (X.ag : Nat)) ∧ W.cell? ⟨w.heap.size, 3, none⟩ = some (.string (bs X.nx)) from fun W gW => ⟨(HBx.out W gW).cell 2 rfl, (HBx.out W gW).cell 3 rfl⟩)
                obtain ⟨g, R, L, s', gn', sure', q1, q2, q3, q4, q5, q6, q7, q8, q9, q10⟩ := HA.out
                have hPr : ∀ W, Frm (fun _ => False) wc W → L.cs.length = 0 ∨ ∀ k, L.P k → k < W.heap.size := fun W gW => by
                  rw [q3.P, q3.cs]
                  exact HE.out.np.imp id fun u k hk => by have := (u k hk).2; have := gW.size; omega
                have hacL : L.acts ≤ 800000 := by have := q3.acts; have := HAC.out; have := HK.out.1; omega
                have HCk := Lib.hid (fun (W : World) (gW : Frm (fun _ => False) wc W) => wcheck_any q l b f x ⟨128, s', gn', false⟩ (some ⟨g, 0, none⟩) L X.nx W (q1.wl.keepF gW) rfl (by have := HK.out.2.2.1; show X.nx.length ≤ 58 * 127; omega) hacL (hPr W gW) (by have := HAC.out; have := HK.out.1; show gn' + 1 < 4294967296; omega))
                have HB1 : Hid (∀ (W0 W1 : World) (e : Ending), Frm (fun _ => False) wc W0 → CkTo q l b f x ⟨128, s', gn', false⟩ (some ⟨g, 0, none⟩) (anR L ((1 - s') * 128) 128 (gn' + 1) X.nx) W0 e W1 → ∃ c : Nat, e = .returned (.int .i64 (c : Nat)) ∧ Frm (WlX q l f x) W0 W1 ∧
                    ∀ W v, Frm (fun _ => False) W1 W → OwnS W v [X.nx] → (∀ k, v.ownBlock = some k → (k < W0.heap.size ∨ W1.heap.size ≤ k) ∧ ¬ Zk z q l f x k) → Bth w1 z q q l b f x w.heap.size g0 L0 (j + 2) [X.nx] c v W) := Lib.hid fun W0 W1 e gW hT =>
                  ck_bth (j := j + 2) HE.out (q3.mono (by omega)) (by have := HK.out.1; omega) q2.rest q2.st.live HK.out.2.2.1 (by omega) HAC.out.2 ((q4.zone fun k _ h => by
                    rcases h with h | h | h
                    · exact .inl h
                    · exact .inr (.inl h)
                    · exact .inr (.inr (.inr h))).keepF gW) (q8.trans (gW.mono fun _ _ h => h.elim)) (Nat.le_trans q10 gW.size) hT
                have HWr := Lib.hid q8
                clear q1 q2 q3 q4 q5 q6 q7 q8 q9 q10 hPr hacL
                go_upto_region 10 with fail
                go_cut [71] from 18 to 71 (fun s71 W => ∃ bq : Bool, s71 = .bool (!bq) ∧ LvB w1 z q q l b f x w.heap.size g0 L0 (j + 2) bq W)
                case first =>
                  have HW0 := Lib.hid (Frm.refl (fun _ => False) wc).drew
                  have HWY := Lib.hid (HWr.out.trans (HW0.out.mono fun _ _ h => h.elim : Frm (Yx z q q l f x) wc wc.drew))
                  have HZ2 := Lib.hid (And.intro HZ.out.1 (show w.heap.size + 1 ≤ wc.heap.size by have := HZ.out.2; have := HWr.out.size; omega))
                  refine wp_region_freeO [0, 1, 2, 3, 4, 5, 6, 7, 8, 9, 10, 12, 13] [11, 14, 15, 16, 17] (fun W => W.cell? ⟨w.heap.size, 2, none⟩ = some (.int .u8 (X.ag : Nat)) ∧ W.cell? ⟨w.heap.size, 3, none⟩ = some (.string (bs X.nx)))
                    (fun i => ([.int .i64 (k : Nat), .pointer (some ⟨w.heap.size, 2, none⟩), .int .u8 (X.ag : Nat), .int .u8 (k : Nat), .int .i64 (k : Nat), .bool true, .bool true, .pointer (some ⟨z, 0, none⟩), .pointer (some ⟨q, 0, none⟩), .pointer (some ⟨w.heap.size, 3, none⟩), .string (bs X.nx), undef, .pointer (some ⟨w.heap.size, 3, none⟩), .string (bs X.nx)] : List Value).getD i undef)
                    (by kernel_rfl) rfl (by rfl) rfl (by kernel_rfl) (by kernel_rfl) (by kernel_rfl) (by kernel_rfl) (by kernel_rfl) (HSx.out _ HWY.out) ?_ ?_
                  · repeat'
                      (refine ⟨by rfl, fun W hW => ?_, ?_⟩
                       · obtain ⟨h1, h2⟩ := hW
                         go_simp
                       (try simp only [Act.put, List.setIfInBounds_toArray, List.set_cons_zero, List.set_cons_succ]))
                    trivial
                  · simp only [aP, Act.put, List.setIfInBounds_toArray, List.set_cons_zero, List.set_cons_succ, List.getD_cons_zero, List.getD_cons_succ]
                    obtain ⟨wd, hwd⟩ : ∃ wd, wc.drew = wd := ⟨_, rfl⟩
                    rw [hwd]
                    have HW0 : Hid (Frm (fun _ => False) wc wd) := by rw [← hwd]; exact HW0
                    have HWY : Hid (Frm (Yx z q q l f x) w1 wd) := by rw [← hwd]; exact HWY
                    clear hwd HZ
                    have HZ := HZ2
                    clear HZ2 c2 c3 HA
                    refine wpFree.two (i := 11) (k := 14) (Mi := [14, 15, 16, 17]) (Mk := [11, 15, 16, 17]) (by kernel_rfl) (by rfl) (by rfl) ?_ ?_
                    · refine wpOp_callD rfl rfl (by rfl) (by go_simp) ((HCk.out wd HW0.out).mono ?_)
                      intro e wA hA
                      obtain ⟨c, rfl, gA, hB⟩ := HB1.out wd wA e HW0.out hA
                      have gYA : Frm (Yx z q q l f x) w1 wA := (HWY.out).trans (gA.mono fun _ _ h => .inr (.inr h))
                      refine ⟨_, rfl, HSx.out wA (gYA), ?_⟩
                      (try simp only [Act.put, List.setIfInBounds_toArray, List.set_cons_zero, List.set_cons_succ])
                      refine wpFree.one (i := 14) (M' := [15, 16, 17]) (by kernel_rfl) (by rfl) ?_
                      refine wpOp.val rfl (by rfl) (fun K hK => ?_)
                      unfold Oper.wp execOp
                      go_simp
                      refine hK _ _ ⟨HSx.out _ ((gYA.trans ((Frm.refl _ wA).alloc _))), ?_⟩
                      clear hK K
                      (try simp only [Act.put, List.setIfInBounds_toArray, List.set_cons_zero, List.set_cons_succ])
                      have hBt := hB (wA.alloc (.cells #[.string (bs X.nx)] 9)) (.slice (some ⟨wA.heap.size, 0, none⟩) 1 1) ((Frm.refl _ wA).alloc _) (own_one wA X.nx) (fun k hk => by have hk : wA.heap.size = k := Option.some.inj hk; exact ⟨.inr (by omega), fun h => by have := gA.size; have := HW0.out.size; have := HZ.out; unfold Zk WlX LnX at h; omega⟩)
                      refine wpFree.one (i := 15) (M' := [16, 17]) (by kernel_rfl) (by rfl) ?_
                      refine wpOp_callD rfl rfl (by rfl) (by go_simp) ((bth_did HE.out hBt).mono ?_)
                      rintro e wD ⟨bq, rfl, hBq⟩
                      have hBq := LvB.ofOr hBq
                      refine ⟨_, rfl, HSx.out wD (hBq.frm), ?_⟩
                      (try simp only [Act.put, List.setIfInBounds_toArray, List.set_cons_zero, List.set_cons_succ])
                      clear hBt gYA gA hB
                      have HD := Lib.hid hBq
                      clear hBq
                      refine wpFree.one (i := 16) (M' := [17]) (by kernel_rfl) (by rfl) ?_
                      refine wpOp.val rfl (by rfl) (fun K hK => ?_)
                      unfold Oper.wp execOp
                      go_simp
                      refine hK _ _ ⟨HSx.out wD (HD.out.frm), ?_⟩
                      clear hK K
                      (try simp only [Act.put, List.setIfInBounds_toArray, List.set_cons_zero, List.set_cons_succ])
                      refine wpFree.one (i := 17) (M' := []) (by kernel_rfl) (by rfl) ?_
                      refine wpOp.val rfl (by rfl) (fun K hK => ?_)
                      unfold Oper.wp execOp
                      go_simp
                      refine hK _ _ ⟨HSx.out wD (HD.out.frm), ?_⟩
                      clear hK K
                      (try simp only [Act.put, List.setIfInBounds_toArray, List.set_cons_zero, List.set_cons_succ])
                      refine wpFree.done ?_
                      go_wp2_with fail
                      go_meet
                      exact ⟨bq, rfl, HD.out⟩
                    · refine wpOp.val rfl (by rfl) (fun K hK => ?_)
                      unfold Oper.wp execOp
                      go_simp
                      have gP : Frm (fun _ => False) (wd) ((wd).alloc (.cells #[.string (bs X.nx)] 9)) := (Frm.refl _ _).alloc _
                      have ho := own_one (wd) X.nx
                      have zP : ((wd).alloc (.cells #[.string (bs X.nx)] 9)).heap.size = (wd).heap.size + 1 := by simp
                      obtain ⟨wP, hwP⟩ : ∃ wP, (wd).alloc (.cells #[.string (bs X.nx)] 9) = wP := ⟨_, rfl⟩
                      rw [hwP] at gP ho zP ⊢
                      have gYP := (HWY.out).trans (gP.mono fun _ _ h => h.elim : Frm (Yx z q q l f x) _ wP)
                      refine hK _ _ ⟨HSx.out wP (gYP), ?_⟩
                      clear hK K hwP
                      (try simp only [Act.put, List.setIfInBounds_toArray, List.set_cons_zero, List.set_cons_succ])
                      refine wpFree.one (i := 11) (M' := [15, 16, 17]) (by kernel_rfl) (by rfl) ?_
                      refine wpOp_callD rfl rfl (by rfl) (by go_simp) ((HCk.out wP (HW0.out.trans gP)).mono ?_)
                      intro e wA hA
                      obtain ⟨c, rfl, gA, hB⟩ := HB1.out wP wA e (HW0.out.trans gP) hA
                      have gYA : Frm (Yx z q q l f x) w1 wA := gYP.trans (gA.mono fun _ _ h => .inr (.inr h))
                      refine ⟨_, rfl, HSx.out wA (gYA), ?_⟩
                      (try simp only [Act.put, List.setIfInBounds_toArray, List.set_cons_zero, List.set_cons_succ])
                      have hBt := hB wA (.slice (some ⟨(wd).heap.size, 0, none⟩) 1 1) (Frm.refl _ _) (ho.keep gA (fun k hk h => by have hk : (wd).heap.size = k := Option.some.inj hk; have := HW0.out.size; have := HZ.out; unfold WlX LnX at h; omega)) (fun k hk => by have hk : (wd).heap.size = k := Option.some.inj hk; exact ⟨.inl (by omega), fun h => by have := HW0.out.size; have := HZ.out; unfold Zk WlX LnX at h; omega⟩)
                      refine wpFree.one (i := 15) (M' := [16, 17]) (by kernel_rfl) (by rfl) ?_
                      refine wpOp_callD rfl rfl (by rfl) (by go_simp) ((bth_did HE.out hBt).mono ?_)
                      rintro e wD ⟨bq, rfl, hBq⟩
                      have hBq := LvB.ofOr hBq
                      refine ⟨_, rfl, HSx.out wD (hBq.frm), ?_⟩
                      (try simp only [Act.put, List.setIfInBounds_toArray, List.set_cons_zero, List.set_cons_succ])
                      clear hBt gYA gA hB
                      clear ho gP gYP zP
                      have HD := Lib.hid hBq
                      clear hBq
                      refine wpFree.one (i := 16) (M' := [17]) (by kernel_rfl) (by rfl) ?_
                      refine wpOp.val rfl (by rfl) (fun K hK => ?_)
                      unfold Oper.wp execOp
                      go_simp
                      refine hK _ _ ⟨HSx.out wD (HD.out.frm), ?_⟩
                      clear hK K
                      (try simp only [Act.put, List.setIfInBounds_toArray, List.set_cons_zero, List.set_cons_succ])
                      refine wpFree.one (i := 17) (M' := []) (by kernel_rfl) (by rfl) ?_
                      refine wpOp.val rfl (by rfl) (fun K hK => ?_)
                      unfold Oper.wp execOp
                      go_simp
                      refine hK _ _ ⟨HSx.out wD (HD.out.frm), ?_⟩
                      clear hK K
                      (try simp only [Act.put, List.setIfInBounds_toArray, List.set_cons_zero, List.set_cons_succ])
                      refine wpFree.done ?_
                      go_wp2_with fail
                      go_meet
                      exact ⟨bq, rfl, HD.out⟩
                case rest =>
                  obtain ⟨bq, rfl, hB⟩ := hcut
                  clear HCk HB1 HWr HSx c2 c3 HA
                  cases bq with
                  | false =>
                    have HD := Lib.hid (show LvD w1 z q q l b f x w.heap.size g0 L0 wc from by
                      rcases hB with ⟨h, _⟩ | ⟨_, h⟩
                      · cases h
                      · exact h)
                    clear hB
                    go_wp2_with fail
                    go_ret
                    exact ⟨rfl, w1, HG1.out, HD.out⟩
                  | true =>
                    have HA2 := Lib.hid (show LvA w1 z q q l b f x w.heap.size g0 L0 (j + 2) wc from by
                      rcases hB with ⟨_, h⟩ | ⟨h, _⟩
                      · exact h
                      · cases h)
                    clear hB
                    go_wp2_with fail
                    refine ⟨?_, ?measure⟩
                    (repeat apply Exists.intro)
                    refine ⟨?rel, rfl⟩
                    case rel => exact ⟨k + 1, j + 2, by omega, by go_num, .inr ⟨by omega, by omega⟩, HA2.out⟩
                    case measure => simp [intOf]; omega
              · have hne : ¬ (k : Int) = (m : Int) := by omega
                have hne2 : ((k : Int) == (m : Int)) = false := by rw [beq_eq_false_iff_ne]; exact hne
                go_upto_region 10 with fail
                refine wp_region_canon (fun W => W.cell? ⟨w.heap.size, 2, none⟩ = some (.int .u8 (X.ag : Nat)) ∧ Frm (fun _ => False) wc W) (by kernel_rfl) rfl (by kernel_rfl) (by kernel_rfl) (⟨c2, (Frm.refl _ wc).drew⟩) ?_
                repeat' first
                  | (refine CanonL.skip (by rfl) ?_; (try simp only [Act.put, List.setIfInBounds_toArray, List.set_cons_zero, List.set_cons_succ]))
                  | (refine CanonL.val (v := ?_) (by rfl) ?_ ?_; rotate_left 1; (focus (intro w hSw; (try dsimp only at hSw); go_simp; (try (with_reducible rfl)); done)); (try simp only [Act.put, List.setIfInBounds_toArray, List.set_cons_zero, List.set_cons_succ]))
                refine CanonL.done ?_
                intro w9 hS9
                obtain ⟨_, g9⟩ := hS9
                have HA2 := Lib.hid (HA.out.keepF g9)
                clear g9 c2
                go_wp2_with fail
                refine ⟨?_, ?measure⟩
                (repeat apply Exists.intro)
                refine ⟨?rel, rfl⟩
                case rel => exact ⟨k + 1, j + 1, by omega, by go_num, by have := HJ.out; omega, HA2.out⟩
                case measure => simp [intOf]; omega
        · have hki : ¬ (k : Int) < (X.l.length : Int) := by omega
          have hjx : j ≤ 12 := by have := HK.out.1; have := HJ.out; omega
          go_wp2_with fail
          go_ret
          exact ⟨rfl, w1, HG1.out, HAr.out.done hjx⟩
end Go.Proofs.YtddjkbpgaenpgaaGreat

