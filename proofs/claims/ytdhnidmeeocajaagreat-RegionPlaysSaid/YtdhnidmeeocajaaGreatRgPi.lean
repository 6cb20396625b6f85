/- The document's own region: Append. No condition. -/
import Derived.Test.YtdhnidmeeocajaaGreatRgPh
import Derived.Test.YtdhnidmeeocajaaGreatRgS
namespace Go.Proofs.YtdhnidmeeocajaaGreat
open Go.RowKit Go.Shelf

/-- The acts of the first k blocks of a group. -/
def preB (A i : Nat) (s : List UInt8) (k : Nat) : List (DV → DV) := (wrs A (blks i s)).take k
theorem preB_snoc (A i : Nat) (s : List UInt8) (k : Nat) (h : k < needs s.length) : preB A i s (k + 1) = preB A i s k ++ [wrD (A + k) (blk i s k)] := by
  unfold preB
  rw [List.take_add_one]
  congr 1
  unfold wrs
  rw [List.getElem?_mapIdx, blks_at i s k h]
  rfl
theorem preB_all (A i : Nat) (s : List UInt8) : preB A i s (needs s.length) = wrs A (blks i s) := by
  unfold preB
  rw [List.take_of_length_le]
  rw [wrs_len, blks_len]
  exact Nat.le_refl _
theorem preB_n (A i : Nat) (s : List UInt8) (k : Nat) : ∀ F ∈ preB A i s k, ∀ D : DV, (F D).n = D.n := by
  intro F hF D
  have h1 := List.mem_of_mem_take hF
  unfold wrs at h1
  obtain ⟨j, hj, rfl⟩ := List.mem_mapIdx.1 h1
  exact writeTo_n D _ _
theorem preB_len (A i : Nat) (s : List UInt8) (k : Nat) : (preB A i s k).length ≤ k := by unfold preB; rw [List.length_take]; omega
theorem preB_cut (L : LV) (A i : Nat) (s : List UInt8) (k : Nat) (h : (L.seq (preB A i s k)).2 ≠ 0) : L.seq (wrs A (blks i s)) = L.seq (preB A i s k) := by
  have e : wrs A (blks i s) = preB A i s k ++ (wrs A (blks i s)).drop k := (List.take_append_drop k _).symm
  rw [e, LV.seq_append, if_neg h]
/-- It has more blocks in use. -/
theorem RRM.usedTo {w : World} {b p r : Nat} {fp : Nat → Prop} {R : RV} {L : LV} (h : RRM w b p r fp R L) (n : Nat) (hn : R.used + n + 1 ≤ R.n) : RRM (w.setCell ⟨b, 3, none⟩ (.int .i64 ((R.used + n : Nat) : Int))) b p r fp ⟨R.at_, R.n, R.used + n, R.bad⟩ L ∧ Frm (· = b) w (w.setCell ⟨b, 3, none⟩ (.int .i64 ((R.used + n : Nat) : Int))) := by
  have g : Frm (· = b) w (w.setCell ⟨b, 3, none⟩ (.int .i64 ((R.used + n : Nat) : Int))) := (Frm.refl (· = b) w).setCell (fun _ => rfl) _
  have hb := h.rg.blk.set 3 (.int .i64 ((R.used + n : Nat) : Int))
  obtain ⟨cv, hl⟩ := h.ln
  refine ⟨⟨⟨hb, h.rg.lo, h.rg.hi, hn⟩, ⟨cv, hl.keep g (fun e => h.bp e.symm) (fun k hk e => h.nf (e ▸ hk)) ?_⟩, h.bp, h.nf, h.np⟩, g⟩
  rcases hl.za with hz | hz
  · exact .inl hz
  · exact h.np.imp id fun q k hk e => q k (hz k hk).2.2 e
/-- While a group is put down: k of its blocks are. -/
def ApJ (b p : Nat) (fp : Nat → Prop) (R : RV) (L : LV) (s : List UInt8) (w : World) (k : Nat) (W : World) (r : Nat) : Prop :=
  ∃ fp', (L.seq (preB (R.at_ + 1 + R.used) (R.used + 1) s k)).2 = 0 ∧ RRM W b p r fp' R (L.seq (preB (R.at_ + 1 + R.used) (R.used + 1) s k)).1 ∧ Frm (fun k => k = b ∨ k = p ∨ fp k) w W ∧ ∀ k, fp' k → fp k ∨ w.heap.size ≤ k
set_option maxRecDepth 100000 in
set_option maxHeartbeats 4000000 in
theorem refappend_any (b p r : Nat) (fp : Nat → Prop) (R : RV) (L : LV) (s : List UInt8) (w : World) (h : RRM w b p r fp R L) (ha : L.acts ≤ 900000) (hs : s.length ≤ 1000000) (hN : R.at_ + R.n ≤ L.D.n) :
    Calls Tryz.prog 49 #[.pointer (some ⟨b, 0, none⟩), .string (bs s)] w (RRTo b p r fp (apR R L s) w) := by
  have c4 : w.cell? ⟨b, 4, none⟩ = some (.bool R.bad) := h.rg.blk.cell 4 rfl
  unfold apR RRTo
  cases hb : R.bad with
  | true =>
    rw [hb] at c4
    have HR := Lib.hid h
    clear h hb ha
    go_enter Tryz.func49, Tryz.ntmps49
    go_wp2_with fail
    go_ret
    exact ⟨rfl, fp, HR.out, Frm.refl _ _, fun _ h => .inl h⟩
  | false =>
    rw [hb] at c4
    have hsz : ((bs s).size : Int) = (s.length : Int) := by rw [bs_size]
    have HNe := Lib.hid (refneeds_any s.length w hs)
    have HLf := Lib.hid (refleft_any b p R w h.rg)
    obtain ⟨n, hn⟩ : ∃ n, needs s.length = n := ⟨_, rfl⟩
    obtain ⟨lf, hlf⟩ : ∃ lf, R.left = lf := ⟨_, rfl⟩
    rw [hn] at HNe
    rw [hlf] at HLf
    rw [hn, hlf]
    have HR := Lib.hid (And.intro h (And.intro hb (And.intro ha (And.intro hs (And.intro hN (And.intro hn hlf))))))
    clear h hb ha hs hN
    by_cases hlt : lf < n
    · rw [if_pos hlt]
      have hlti : (lf : Int) < (n : Int) := by omega
      clear hn hlf
      go_enter Tryz.func49, Tryz.ntmps49
      go_wp2_with fail
      refine HNe.out.mono ?_
      rintro e w1 ⟨rfl, rfl⟩
      go_wp2_with fail
      refine HLf.out.mono ?_
      rintro e w1 ⟨rfl, g1⟩
      have H1 := Lib.hid g1
      clear g1
      go_wp2_with fail
      go_ret
      exact ⟨rfl, fp, HR.out.1.keepF H1.out, H1.out.mono fun _ _ h => h.elim, fun _ h => .inl h⟩
    · rw [if_neg hlt]
      obtain ⟨tt, htt⟩ : ∃ tt, (if (L.seq (wrs (R.at_ + 1 + R.used) (blks (R.used + 1) s))).2 = 0 then ((⟨R.at_, R.n, R.used + n, false⟩ : RV), (L.seq (wrs (R.at_ + 1 + R.used) (blks (R.used + 1) s))).1, 0) else ((⟨R.at_, R.n, R.used, true⟩ : RV), (L.seq (wrs (R.at_ + 1 + R.used) (blks (R.used + 1) s))).1, (L.seq (wrs (R.at_ + 1 + R.used) (blks (R.used + 1) s))).2)) = tt := ⟨_, rfl⟩
      rw [if_neg (show ¬ (false = true) by decide), htt]
      have HTT := Lib.hid htt
      clear htt
      have hlti : ¬ (lf : Int) < (n : Int) := by omega
      have hnl : n + R.used + 1 ≤ R.n := by have := HR.out.1.rg.us; unfold RV.left at hlf; omega
      have hrn := HR.out.1.rg.hi
      have hrl := HR.out.1.rg.lo
      have hdn := HR.out.1.ln.dok.hi
      have HNn := Lib.hid (And.intro hnl (And.intro hrn (And.intro hrl hdn)))
      clear hn hlf hnl hrn hrl hdn
      go_enter Tryz.func49, Tryz.ntmps49
      go_wp2_with fail
      refine HNe.out.mono ?_
      rintro e w1 ⟨rfl, rfl⟩
      go_wp2_with fail
      refine HLf.out.mono ?_
      rintro e w1 ⟨rfl, g1⟩
      have H1 : Hid (ApJ b p fp R L s w 0 w1 r) := Lib.hid ⟨fp, rfl, HR.out.1.keepF g1, g1.mono fun _ _ h => h.elim, fun _ h => .inl h⟩
      clear g1 HNe HLf c4 hsz
      go_wp2_with fail
      go_loopw [6] (fun i wr => ∃ k : Nat, k ≤ n ∧ i = .int .i64 (k : Nat) ∧ ApJ b p fp R L s w k wr r) (fun i _ => n - (intOf i).toNat)
      case atStart => exact ⟨0, Nat.zero_le _, rfl, H1.out⟩
      case round =>
        obtain ⟨k, hk, rfl, fp1, hc0, hM, gM, fM⟩ := hrel
        have hnl := HNn.out
        have hsz : ((bs s).size : Int) = (s.length : Int) := by rw [bs_size]
        by_cases hlt : k < n
        · have hki : (k : Int) < (n : Int) := by omega
          have hkn : k < needs s.length := by rw [HR.out.2.2.2.2.2.1]; exact hlt
          have hsl := HR.out.2.2.2.1
          have hgs : L.seq (preB (R.at_ + 1 + R.used) (R.used + 1) s (k + 1)) = (L.seq (preB (R.at_ + 1 + R.used) (R.used + 1) s k)).1.seq [wrD (R.at_ + 1 + R.used + k) (blk (R.used + 1) s k)] := by rw [preB_snoc _ _ _ _ hkn, LV.seq_append, if_pos hc0]
          have hsm := LV.seq_same (preB (R.at_ + 1 + R.used) (R.used + 1) s k) L (preB_n _ _ _ _)
          have hpl := preB_len (R.at_ + 1 + R.used) (R.used + 1) s k
          have hnn17 : needs s.length ≤ 17242 := by unfold needs; omega
          obtain ⟨Lk, hLk⟩ : ∃ Lk, (L.seq (preB (R.at_ + 1 + R.used) (R.used + 1) s k)).1 = Lk := ⟨_, rfl⟩
          rw [hLk] at hM hgs hsm
          have hNk : R.at_ + R.n ≤ Lk.D.n := by rw [hsm.2.2.2.2]; exact HR.out.2.2.2.2.1
          have hak : Lk.acts ≤ 950000 := by have := hsm.2.1; have := HR.out.2.2.1; omega
          have hdk := hM.ln.dok.hi
          obtain ⟨A, hA⟩ : ∃ A, R.at_ + 1 + R.used + k = A := ⟨_, rfl⟩
          obtain ⟨B, hBk⟩ : ∃ B, blk (R.used + 1) s k = B := ⟨_, rfl⟩
          have hBl : B.length = 64 := by rw [← hBk]; exact blk_len _ _ _
          rw [hA, hBk, seq_one] at hgs
          have hE : Lk.D.writeE (A : Int) B = 0 := writeE_ok (by omega) (by omega) (by omega)
          have HW : Hid (∀ W, Frm (fun _ => False) wr W → Calls Tryz.prog 17 #[.pointer (some ⟨p, 0, none⟩), .int .i64 (A : Nat), .string (bs B)] W fun e w' => e = .returned (.int .i64 (Lk.code 0 : Nat)) ∧ RLnTo p r fp1 (Lk.act (wrD A B Lk.D)) W w') := Lib.hid fun W gW => by
            have := rlwrite_any p r fp1 Lk (A : Int) B W (hM.ln.keepF gW) (by omega) (by unfold Z64; omega) (by omega)
            rw [hE] at this
            exact this
          have HSm := Lib.hid (LV.act_same Lk (wrD A B Lk.D))
          obtain ⟨L1, hL1⟩ : ∃ L1, Lk.act (wrD A B Lk.D) = L1 := ⟨_, rfl⟩
          rw [hL1] at HW HSm hgs
          obtain ⟨kk, hkk⟩ : ∃ kk, 58 * k = kk := ⟨_, rfl⟩
          obtain ⟨ix, hix⟩ : ∃ ix, R.used + 1 + k = ix := ⟨_, rfl⟩
          obtain ⟨P, hP⟩ : ∃ P, pieceAt s k = P := ⟨_, rfl⟩
          have hPl : P.length ≤ 58 := by rw [← hP]; exact pieceAt_len s k
          have hlg : B = logB ix (flagAt s k) P := by rw [← hBk, ← hix, ← hP]; rfl
          obtain ⟨u, hu⟩ : ∃ u, R.used = u := ⟨_, rfl⟩
          obtain ⟨at_, hat⟩ : ∃ at_, R.at_ = at_ := ⟨_, rfl⟩
          have v1 : IntKind.i64.wrap ((k : Int) + 1) = (k : Int) + 1 := IntWalk.i64_in _ (by omega)
          have v2 : IntKind.i64.wrap (((k : Int) + 1) * 58) = ((kk + 58 : Nat) : Int) := by rw [IntWalk.i64_in _ (by omega)]; omega
          have v3 : IntKind.i64.wrap ((n : Int) - 1) = (n : Int) - 1 := IntWalk.i64_in _ (by omega)
          have v4 : IntKind.i64.wrap ((u : Int) + 1) = (u : Int) + 1 := IntWalk.i64_in _ (by omega)
          have v5 : IntKind.i64.wrap ((u : Int) + 1 + (k : Int)) = (ix : Int) := by rw [IntWalk.i64_in _ (by omega)]; omega
          have v6 : IntKind.i64.wrap ((at_ : Int) + (ix : Int)) = (A : Int) := by rw [IntWalk.i64_in _ (by omega)]; omega
          have v7 : IntKind.i64.wrap ((k : Int) * 58) = (kk : Int) := by rw [IntWalk.i64_in _ (by omega)]; omega
          have HSx := Lib.hid (show ∀ W, Frm (fun k => k = p ∨ fp1 k) wr W → W.cell? ⟨b, 0, none⟩ = some (.pointer (some ⟨p, 0, none⟩)) ∧ W.cell? ⟨b, 1, none⟩ = some (.int .i64 (at_ : Nat)) from fun W gW => by
            have hk := hM.rg.blk.keep gW (fun e => e.elim hM.bp hM.nf)
            exact ⟨hk.cell 0 rfl, by have e : W.cell? ⟨b, 1, none⟩ = some (.int .i64 (R.at_ : Nat)) := hk.cell 1 rfl; rw [hat] at e; exact e⟩)
          have c3 : wr.cell? ⟨b, 3, none⟩ = some (.int .i64 (u : Nat)) := by rw [← hu]; exact hM.rg.blk.cell 3 rfl
          have HMk := Lib.hid (And.intro hM (And.intro gM (And.intro fM (And.intro hgs (And.intro hkn hk)))))
          have hcode := Lk.code_or
          obtain ⟨c, hc⟩ : ∃ c, Lk.code 0 = c := ⟨_, rfl⟩
          rw [hc] at HW hcode
          have HCd := Lib.hid (And.intro hcode hc)
          have hix6 : ix < 65536 := by omega
          clear hc0 hM gM fM hgs hsm hpl hLk hNk hak hdk hBl hE hL1 hu hat hcode hc hBk hA hsl
          by_cases hlast : k + 1 = n
          · have hfl : flagAt s k = 1 := by
              have := needs_last (k := k) (n := s.length) (by rw [HR.out.2.2.2.2.2.1]; exact hlast)
              unfold flagAt; rw [if_neg (by omega)]
            have hq : ((k : Int) == (n : Int) - 1) = true := by rw [beq_iff_eq]; omega
            have HB := Lib.hid (fun W => refblock_any ix 1 P W hix6 (by decide) hPl)
            rw [hfl] at hlg
            rw [← hlg] at HB
            obtain ⟨en, hen⟩ : ∃ en, s.length = en := ⟨_, rfl⟩
            have hps := piece_slice s k en (by have := needs_last (k := k) (n := s.length) (by rw [HR.out.2.2.2.2.2.1]; exact hlast); omega)
            have hke : (kk : Int) ≤ (en : Int) := by have := (needs_lt k s.length).1 hkn; omega
            have hke2 : kk ≤ en := by omega
            rw [hkk, hP] at hps
            rw [hen] at hsz
            clear hfl hlg hen hix hkk hP hlast hPl hix6 hnl hkn hnn17
            go_upto_region 13 with fail
            refine wp_region_freeO [0, 1, 2, 3, 4, 5, 6, 7, 8, 9, 10, 11, 12, 13, 14, 15, 16] [17, 18, 19] (fun W => W.cell? ⟨b, 0, none⟩ = some (.pointer (some ⟨p, 0, none⟩)) ∧ W.cell? ⟨b, 1, none⟩ = some (.int .i64 (at_ : Nat)))
              (fun i => ([.pointer (some ⟨b, 0, none⟩), .pointer (some ⟨b, 0, none⟩), .pointer (some ⟨b, 0, none⟩), .pointer (some ⟨p, 0, none⟩), .pointer (some ⟨b, 0, none⟩), .pointer (some ⟨b, 0, none⟩), .pointer (some ⟨b, 1, none⟩), .int .i64 (at_ : Nat), .int .i64 (ix : Nat), .int .i64 (A : Nat), .int .i64 (ix : Nat), .int .i64 1, .string (bs s), .int .i64 (k : Nat), .int .i64 (kk : Nat), .int .i64 (en : Nat), .string (bs P)] : List Value).getD i undef)
              (by kernel_rfl) rfl (by rfl) rfl (by kernel_rfl) (by kernel_rfl) (by kernel_rfl) (by kernel_rfl) (by kernel_rfl) (HSx.out _ (Frm.refl _ wr).drew) ?_ ?_
            · repeat'
                (refine ⟨by rfl, fun W hW => ?_, ?_⟩
                 · obtain ⟨h1, h2⟩ := hW
                   go_simp
                 (try simp only [Act.put, List.setIfInBounds_toArray, List.set_cons_zero, List.set_cons_succ]))
              trivial
            · simp only [aP, Act.put, List.setIfInBounds_toArray, List.set_cons_zero, List.set_cons_succ, List.getD_cons_zero, List.getD_cons_succ]
              obtain ⟨wd, hwd⟩ : ∃ wd, wr.drew = wd := ⟨_, rfl⟩
              rw [hwd]
              have G0 : Hid (Frm (fun _ => False) wr wd) := by rw [← hwd]; exact Lib.hid (Frm.refl _ wr).drew
              clear hwd
              refine wpFree.one (i := 17) (M' := [18, 19]) (by kernel_rfl) (by rfl) ?_
              refine wpOp_callD rfl rfl (by rfl) (by go_simp) ((HB.out wd).mono ?_)
              rintro e wA ⟨rfl, gA⟩
              have GA := Lib.hid (G0.out.trans gA)
              clear gA HB G0
              refine ⟨_, rfl, HSx.out wA (GA.out.mono fun _ _ h => h.elim), ?_⟩
              (try simp only [Act.put, List.setIfInBounds_toArray, List.set_cons_zero, List.set_cons_succ])
              refine wpFree.one (i := 18) (M' := [19]) (by kernel_rfl) (by rfl) ?_
              refine wpOp_callD rfl rfl (by rfl) (by go_simp) ((HW.out wA GA.out).mono ?_)
              rintro e wB ⟨rfl, fp2, h2, g2, f2⟩
              have gB : Frm (fun k => k = p ∨ fp1 k) wr wB := (GA.out.mono fun _ _ h => h.elim : Frm (fun k => k = p ∨ fp1 k) wr wA).trans g2
              have fB : ∀ k, fp2 k → fp1 k ∨ wr.heap.size ≤ k := fun k hk => (f2 k hk).imp id fun e => Nat.le_trans GA.out.size e
              have HBw := Lib.hid (And.intro h2 (And.intro gB fB))
              clear h2 g2 f2 gB fB HW
              refine ⟨_, rfl, HSx.out wB HBw.out.2.1, ?_⟩
              (try simp only [Act.put, List.setIfInBounds_toArray, List.set_cons_zero, List.set_cons_succ])
              refine wpFree.one (i := 19) (M' := []) (by kernel_rfl) (by rfl) ?_
              refine wpOp.val rfl (by rfl) (fun K hK => ?_)
              unfold Oper.wp execOp
              go_simp
              refine hK _ _ ⟨HSx.out wB HBw.out.2.1, ?_⟩
              clear hK K
              (try simp only [Act.put, List.setIfInBounds_toArray, List.set_cons_zero, List.set_cons_succ])
              refine wpFree.done ?_
              have hM := HMk.out.1.lined HBw.out.1 HBw.out.2.1 HBw.out.2.2 HSm.out.1 HSm.out.2.2.2
              have gw : Frm (fun k => k = b ∨ k = p ∨ fp k) w wB := HMk.out.2.1.next HBw.out.2.1 fun k hk hX => by
                rcases hX with h | h
                · exact .inr (.inl h)
                · rcases HMk.out.2.2.1 k h with h | h
                  · exact .inr (.inr h)
                  · omega
              have fw : ∀ k, fp2 k → fp k ∨ w.heap.size ≤ k := fun k hk => by
                rcases HBw.out.2.2 k hk with h | h
                · exact HMk.out.2.2.1 k h
                · exact .inr (Nat.le_trans HMk.out.2.1.size h)
              have hgs := HMk.out.2.2.2.1
              rw [HCd.out.2] at hgs
              rcases HCd.out.1 with rfl | rfl
              · have H9 : Hid (ApJ b p fp R L s w (k + 1) wB r) := Lib.hid ⟨fp2, by rw [hgs], by rw [hgs]; exact hM, gw, fw⟩
                clear hM gw fw hgs v2 v3 v4 v5 v6 v7
                go_wp2_with fail
                first
                  | exact ⟨⟨k + 1, by omega, by go_num, H9.out⟩, by simp [intOf]; omega⟩
                  | (refine ⟨?_, ?measure⟩
                     (repeat apply Exists.intro)
                     refine ⟨?rel, rfl⟩
                     case rel => exact ⟨k + 1, by omega, by go_num, H9.out⟩
                     case measure => simp [intOf]; omega)
              · have hBk := hM.broke
                have f4 := hM.rg.blk.free 4
                have c04 : wB.cell? ⟨b, 4, none⟩ = some (.bool R.bad) := hM.rg.blk.cell 4 rfl
                have hcut := preB_cut L (R.at_ + 1 + R.used) (R.used + 1) s (k + 1) (by rw [hgs]; show (8 : Nat) ≠ 0; decide)
                rw [hgs] at hcut
                have H9 := Lib.hid (And.intro hBk.1 (And.intro (gw.trans (hBk.2.mono fun _ _ h => .inl h)) (And.intro fw hcut)))
                clear hM hBk gw fw hgs hcut v1 v2 v3 v4 v5 v6 v7
                go_wp2_with fail
                go_ret
                have ht : tt = ((⟨R.at_, R.n, R.used, true⟩ : RV), L1, 8) := by rw [← HTT.out, H9.out.2.2.2, if_neg (show ¬ ((L1, 8) : LV × Nat).2 = 0 from (by decide : ¬ (8 : Nat) = 0))]
                rw [ht]
                exact ⟨rfl, fp2, H9.out.1, H9.out.2.1, H9.out.2.2.1⟩
          · have hfl : flagAt s k = 0 := by
              have := needs_more (k := k) (n := s.length) (by rw [HR.out.2.2.2.2.2.1]; omega)
              unfold flagAt; rw [if_pos (by omega)]
            have hq : ((k : Int) == (n : Int) - 1) = false := by rw [beq_eq_false_iff_ne]; omega
            have HB := Lib.hid (fun W => refblock_any ix 0 P W hix6 (by decide) hPl)
            rw [hfl] at hlg
            rw [← hlg] at HB
            have hmr := needs_more (k := k) (n := s.length) (by rw [HR.out.2.2.2.2.2.1]; omega)
            obtain ⟨en, hen⟩ : ∃ en, kk + 58 = en := ⟨_, rfl⟩
            have hps := piece_slice s k en (by omega)
            have hke : (kk : Int) ≤ (en : Int) := by omega
            have hke2 : kk ≤ en := by omega
            have hke3 : en ≤ (bs s).size := by rw [bs_size]; omega
            have hke4 : (en : Int) ≤ ((bs s).size : Int) := by omega
            have hke5 : (en : Int) ≤ (s.length : Int) := by omega
            rw [hkk, hP] at hps
            rw [hen] at v2
            clear hfl hlg hen hix hkk hP hlast hPl hix6 hnl hkn hnn17 hmr
            go_upto_region 13 with fail
            refine wp_region_freeO [0, 1, 2, 3, 4, 5, 6, 7, 8, 9, 10, 11, 12, 13, 14, 15, 16] [17, 18, 19] (fun W => W.cell? ⟨b, 0, none⟩ = some (.pointer (some ⟨p, 0, none⟩)) ∧ W.cell? ⟨b, 1, none⟩ = some (.int .i64 (at_ : Nat)))
              (fun i => ([.pointer (some ⟨b, 0, none⟩), .pointer (some ⟨b, 0, none⟩), .pointer (some ⟨b, 0, none⟩), .pointer (some ⟨p, 0, none⟩), .pointer (some ⟨b, 0, none⟩), .pointer (some ⟨b, 0, none⟩), .pointer (some ⟨b, 1, none⟩), .int .i64 (at_ : Nat), .int .i64 (ix : Nat), .int .i64 (A : Nat), .int .i64 (ix : Nat), .int .i64 0, .string (bs s), .int .i64 (k : Nat), .int .i64 (kk : Nat), .int .i64 (en : Nat), .string (bs P)] : List Value).getD i undef)
              (by kernel_rfl) rfl (by rfl) rfl (by kernel_rfl) (by kernel_rfl) (by kernel_rfl) (by kernel_rfl) (by kernel_rfl) (HSx.out _ (Frm.refl _ wr).drew) ?_ ?_
            · repeat'
                (refine ⟨by rfl, fun W hW => ?_, ?_⟩
                 · obtain ⟨h1, h2⟩ := hW
                   go_simp
                 (try simp only [Act.put, List.setIfInBounds_toArray, List.set_cons_zero, List.set_cons_succ]))
              trivial
            · simp only [aP, Act.put, List.setIfInBounds_toArray, List.set_cons_zero, List.set_cons_succ, List.getD_cons_zero, List.getD_cons_succ]
              obtain ⟨wd, hwd⟩ : ∃ wd, wr.drew = wd := ⟨_, rfl⟩
              rw [hwd]
              have G0 : Hid (Frm (fun _ => False) wr wd) := by rw [← hwd]; exact Lib.hid (Frm.refl _ wr).drew
              clear hwd
              refine wpFree.one (i := 17) (M' := [18, 19]) (by kernel_rfl) (by rfl) ?_
              refine wpOp_callD rfl rfl (by rfl) (by go_simp) ((HB.out wd).mono ?_)
              rintro e wA ⟨rfl, gA⟩
              have GA := Lib.hid (G0.out.trans gA)
              clear gA HB G0
              refine ⟨_, rfl, HSx.out wA (GA.out.mono fun _ _ h => h.elim), ?_⟩
              (try simp only [Act.put, List.setIfInBounds_toArray, List.set_cons_zero, List.set_cons_succ])
              refine wpFree.one (i := 18) (M' := [19]) (by kernel_rfl) (by rfl) ?_
              refine wpOp_callD rfl rfl (by rfl) (by go_simp) ((HW.out wA GA.out).mono ?_)
              rintro e wB ⟨rfl, fp2, h2, g2, f2⟩
              have gB : Frm (fun k => k = p ∨ fp1 k) wr wB := (GA.out.mono fun _ _ h => h.elim : Frm (fun k => k = p ∨ fp1 k) wr wA).trans g2
              have fB : ∀ k, fp2 k → fp1 k ∨ wr.heap.size ≤ k := fun k hk => (f2 k hk).imp id fun e => Nat.le_trans GA.out.size e
              have HBw := Lib.hid (And.intro h2 (And.intro gB fB))
              clear h2 g2 f2 gB fB HW
              refine ⟨_, rfl, HSx.out wB HBw.out.2.1, ?_⟩
              (try simp only [Act.put, List.setIfInBounds_toArray, List.set_cons_zero, List.set_cons_succ])
              refine wpFree.one (i := 19) (M' := []) (by kernel_rfl) (by rfl) ?_
              refine wpOp.val rfl (by rfl) (fun K hK => ?_)
              unfold Oper.wp execOp
              go_simp
              refine hK _ _ ⟨HSx.out wB HBw.out.2.1, ?_⟩
              clear hK K
              (try simp only [Act.put, List.setIfInBounds_toArray, List.set_cons_zero, List.set_cons_succ])
              refine wpFree.done ?_
              have hM := HMk.out.1.lined HBw.out.1 HBw.out.2.1 HBw.out.2.2 HSm.out.1 HSm.out.2.2.2
              have gw : Frm (fun k => k = b ∨ k = p ∨ fp k) w wB := HMk.out.2.1.next HBw.out.2.1 fun k hk hX => by
                rcases hX with h | h
                · exact .inr (.inl h)
                · rcases HMk.out.2.2.1 k h with h | h
                  · exact .inr (.inr h)
                  · omega
              have fw : ∀ k, fp2 k → fp k ∨ w.heap.size ≤ k := fun k hk => by
                rcases HBw.out.2.2 k hk with h | h
                · exact HMk.out.2.2.1 k h
                · exact .inr (Nat.le_trans HMk.out.2.1.size h)
              have hgs := HMk.out.2.2.2.1
              rw [HCd.out.2] at hgs
              rcases HCd.out.1 with rfl | rfl
              · have H9 : Hid (ApJ b p fp R L s w (k + 1) wB r) := Lib.hid ⟨fp2, by rw [hgs], by rw [hgs]; exact hM, gw, fw⟩
                clear hM gw fw hgs v2 v3 v4 v5 v6 v7
                go_wp2_with fail
                first
                  | exact ⟨⟨k + 1, by omega, by go_num, H9.out⟩, by simp [intOf]; omega⟩
                  | (refine ⟨?_, ?measure⟩
                     (repeat apply Exists.intro)
                     refine ⟨?rel, rfl⟩
                     case rel => exact ⟨k + 1, by omega, by go_num, H9.out⟩
                     case measure => simp [intOf]; omega)
              · have hBk := hM.broke
                have f4 := hM.rg.blk.free 4
                have c04 : wB.cell? ⟨b, 4, none⟩ = some (.bool R.bad) := hM.rg.blk.cell 4 rfl
                have hcut := preB_cut L (R.at_ + 1 + R.used) (R.used + 1) s (k + 1) (by rw [hgs]; show (8 : Nat) ≠ 0; decide)
                rw [hgs] at hcut
                have H9 := Lib.hid (And.intro hBk.1 (And.intro (gw.trans (hBk.2.mono fun _ _ h => .inl h)) (And.intro fw hcut)))
                clear hM hBk gw fw hgs hcut v1 v2 v3 v4 v5 v6 v7
                go_wp2_with fail
                go_ret
                have ht : tt = ((⟨R.at_, R.n, R.used, true⟩ : RV), L1, 8) := by rw [← HTT.out, H9.out.2.2.2, if_neg (show ¬ ((L1, 8) : LV × Nat).2 = 0 from (by decide : ¬ (8 : Nat) = 0))]
                rw [ht]
                exact ⟨rfl, fp2, H9.out.1, H9.out.2.1, H9.out.2.2.1⟩
        · obtain rfl : k = n := by omega
          have hki : ¬ (k : Int) < (k : Int) := by omega
          have hUs := hM.usedTo k (by omega)
          have f3 := hM.rg.blk.free 3
          have c03 : wr.cell? ⟨b, 3, none⟩ = some (.int .i64 (R.used : Nat)) := hM.rg.blk.cell 3 rfl
          have v1 : IntKind.i64.wrap ((R.used : Int) + (k : Int)) = ((R.used + k : Nat) : Int) := by rw [IntWalk.i64_in _ (by omega)]; omega
          have he : preB (R.at_ + 1 + R.used) (R.used + 1) s k = wrs (R.at_ + 1 + R.used) (blks (R.used + 1) s) := by rw [← preB_all, HR.out.2.2.2.2.2.1]
          rw [he] at hc0 hUs
          have H9 := Lib.hid (And.intro hUs.1 (And.intro (gM.trans (hUs.2.mono fun _ _ h => .inl h)) (And.intro fM hc0)))
          have hbb := HR.out.2.1
          clear hM gM fM hc0 hUs he hsz hnl
          go_wp2_with fail
          go_ret
          have h1 := H9.out.1
          rw [hbb] at h1
          have ht : tt = ((⟨R.at_, R.n, R.used + k, false⟩ : RV), (L.seq (wrs (R.at_ + 1 + R.used) (blks (R.used + 1) s))).1, 0) := by rw [← HTT.out, if_pos H9.out.2.2.2]
          rw [ht]
          exact ⟨rfl, fp1, h1, H9.out.2.1, H9.out.2.2.1⟩
end Go.Proofs.YtdhnidmeeocajaaGreat

