/- The document's own Drop: of any register, any replica, any dots. No condition but that the numbers have their bits. -/
import Derived.Test.YtmdmkcofafhlcaaSwE
import Derived.Test.YtmdmkcofafhlcaaSwF
namespace Go.Proofs.Ytmdmkcofafhlcaa
open Go.RowKit

def dr11M : List Nat := [1, 3, 4, 12, 16, 60, 124, 252, 511, 767, 1279]
def dr11R (u : Value) (B2 N g off k n cap : Nat) (x : SibI) : List ((Nat → Value) → World → Prop) := [
  fun val _ => val 0 = .pointer (some ⟨B2, 8, none⟩),
  fun val _ => val 1 = u,
  fun val _ => val 2 = .pointer (some ⟨N, 8, none⟩),
  fun val _ => val 3 = .slice (some ⟨g, off, none⟩) n cap,
  fun val _ => val 4 = .int .i64 (k : Int),
  fun val _ => val 5 = .pointer (some ⟨g, off + k * 3, none⟩),
  fun val _ => val 6 = .agg #[.int .u8 x.r, .int .u32 x.n, .string (bs x.s)],
  fun val W => ∃ z, (val 7) = z ∧ SL W z [x]]

set_option maxRecDepth 100000 in
set_option maxHeartbeats 8000000 in
theorem rdrop_any (f : Nat → Nat) (v : Value) (l : List SibI) (r : Nat) (vo : Value) (over : List DotI) (w : World) (hf : Fit8 f) (h : SL w v l) (hb : l.length ≤ 1000) (ho : DL w vo over) :
    Calls Try.prog 27 #[rg f v, .int .u8 r, vo] w (RegTo (dropS f l r over) w) := by
  have HD := Lib.hid (show dropS f l r over = if okR f l then (if (nextS8 f r).2.2 = 0 then ((nextS8 f r).1, l.filter (fun x => !decide (x.d ∈ over)), (nextS8 f r).2.1, 0) else (fun _ => 0, [], (0, 0), (nextS8 f r).2.2)) else (fun _ => 0, [], (0, 0), 4) from rfl)
  generalize dropS f l r over = D at *
  obtain ⟨ao, capo, rfl, ho1, ho2⟩ := ho.slice
  obtain ⟨a, cap, rfl, h1, h2⟩ := h.slice
  unfold maxLen at h2
  have g0 : Frm (fun _ => False) w (((w.alloc (.cells (rgc f (.slice a l.length cap)) 47)).alloc (.cells rz 47)).alloc (.cells dz 48)) := (((Frm.refl _ w).alloc _).alloc _).alloc _
  have b0 : Blk (((w.alloc (.cells (rgc f (.slice a l.length cap)) 47)).alloc (.cells rz 47)).alloc (.cells dz 48)) w.heap.size 47 (rgc f (.slice a l.length cap)) := ((Blk.alloc w _ _).old _).old _
  have b1 : Blk (((w.alloc (.cells (rgc f (.slice a l.length cap)) 47)).alloc (.cells rz 47)).alloc (.cells dz 48)) (w.heap.size + 1) 47 rz := (Blk.at1 w _ _ _).old _
  have b2 : Blk (((w.alloc (.cells (rgc f (.slice a l.length cap)) 47)).alloc (.cells rz 47)).alloc (.cells dz 48)) (w.heap.size + 1 + 1) 48 dz := Blk.at2 w _ _ _ _
  go_enter Try.func27, Try.ntmps27
  go_upto_region 1 with fail
  generalize ((w.alloc (.cells (rgc f (.slice a l.length cap)) 47)).alloc (.cells rz 47)).alloc (.cells dz 48) = w0 at *
  obtain ⟨N, hN⟩ : ∃ N, w.heap.size = N := ⟨_, rfl⟩
  have HN := Lib.hid hN
  rw [hN] at b0 b1 b2 ⊢
  clear hN
  have lR := load_rreg b0
  have HC := Lib.hid (rcheck_any f _ l w0 hf (h.keepF g0))
  go_wp2_with ((with_reducible refine wpl_load rfl _ rfl ?_ lR ?_); (focus rfl))
  refine HC.out.mono ?_
  rintro e w1 ⟨rfl, g1⟩
  clear lR HC
  have b0 := b0.keep g1 (fun h => h)
  have b1 := b1.keep g1 (fun h => h)
  have b2 := b2.keep g1 (fun h => h)
  have k1 := g0.trans g1
  clear g0 g1
  cases hok : okR f l with
  | false =>
    have hck : chkS f l = 4 := by unfold chkS; rw [hok]; rfl
    rw [hck]
    have hDe : D = (fun _ => 0, [], (0, 0), 4) := by rw [HD.out, hok]; rfl
    subst hDe
    clear hck hok
    go_wp2_with (first
      | ((with_reducible refine wpl_store_blk rfl 47 _ _ rfl (N + 1) rz rz ?_ ?_ b1 rfl ?_ ?_ ?_); (focus rfl); (focus rfl); (focus (show _ = some 9; kernel_rfl)); (focus (simp [Value.oneCell'])); intro w2 e2 g2 z2; have d3 := b2.keep g2 (by omega))
      | ((with_reducible refine wpl_store_rdot rfl _ _ rfl (N + 1 + 1) 0 0 dz ?_ ?_ d3 rfl ?_); (focus rfl); (focus rfl); intro w3 e3 g3 z3; have h2 := e2.keep g3 (by omega); have c8 := h2.cell 8 rfl; have h2 := rcellsT (show Blk _ _ _ (rgc (fun _ => 0) (.slice none 0 0)) from h2); have d0 := e3.cell 0 rfl; have d1 := e3.cell 1 rfl))
    refine bodyPost_ret (v := .tuple #[rg (fun _ => 0) (.slice none 0 0), .agg (dv 0 0), .int .i64 4]) (by simp [results, Try.results27, go_sem, h2, c8, d0, d1]) rfl ?_
    exact ⟨_, rfl, OwnL.nil_ _, (fun g hg => by cases hg), (k1.next g2 (fun k hk h => by have h : k = N + 1 := h; have := HN.out; omega)).next g3 (fun k hk h => by have h : k = N + 1 + 1 := h; have := HN.out; omega)⟩
  | true =>
    have hck : chkS f l = 0 := by unfold chkS; rw [hok]; rfl
    rw [hck]
    clear hck
    have lC := load_rctx b0
    have NX := Lib.hid (fun W => rnext6_any f r W hf)
    unfold NextR at NX
    have hDe : D = if (nextS8 f r).2.2 = 0 then ((nextS8 f r).1, l.filter (fun x => !decide (x.d ∈ over)), (nextS8 f r).2.1, 0) else (fun _ => 0, [], (0, 0), (nextS8 f r).2.2) := by rw [HD.out, hok]; rfl
    obtain ⟨hR1, hR2⟩ := nextR8_ok (f := f) (r := r)
    rw [← hR1] at hDe hR2
    have hDe2 : D = if (nextR8 f r).2.2 = 0 then ((nextR8 f r).1, l.filter (fun x => !decide (x.d ∈ over)), (nextR8 f r).2.1, 0) else (fun _ => 0, [], (0, 0), (nextR8 f r).2.2) := by
      by_cases hz : (nextR8 f r).2.2 = 0
      · rw [if_pos hz, hR2 hz, ← hR2 hz, hDe, if_pos hz, hR2 hz]
      · rw [if_neg hz, hDe, if_neg hz]
    clear hDe hR1 hR2
    generalize nextR8 f r = X at *
    obtain ⟨vn, ⟨p, q⟩, e0⟩ := X
    simp only at NX hDe2
    have HDE := Lib.hid hDe2
    clear hDe2 hok HD
    go_wp2_with ((with_reducible refine wpl_load rfl _ rfl ?_ lC ?_); (focus rfl))
    refine (NX.out _).mono ?_
    rintro e w2 ⟨rfl, g2⟩
    clear lC NX
    have b0 := b0.keep g2 (fun h => h)
    have b1 := b1.keep g2 (fun h => h)
    have b2 := b2.keep g2 (fun h => h)
    have hb2 := b2.lt
    have k2 := k1.trans g2
    clear k1 g2
    have n7 : Blk ((w2.alloc (.cells vz 23)).alloc (.cells dz 48)) w2.heap.size 23 vz := (Blk.alloc w2 _ _).old _
    have n8 : Blk ((w2.alloc (.cells vz 23)).alloc (.cells dz 48)) (w2.heap.size + 1) 48 dz := Blk.at1 w2 _ _ _
    have m1 : Frm (fun _ => False) w2 ((w2.alloc (.cells vz 23)).alloc (.cells dz 48)) := ((Frm.refl _ w2).alloc _).alloc _
    go_upto_region 4 with (first
      | ((with_reducible refine wpl_store_rvec rfl _ _ rfl w2.heap.size vn vz ?_ ?_ n7 rfl ?_); (focus rfl); (focus rfl); intro w11 e7 g3 z2; have m8 := n8.keep g3 (by omega); have m2 := m1.next (X := fun _ => False) g3 (fun k hk h => by omega))
      | ((with_reducible refine wpl_store_rdot rfl _ _ rfl (w2.heap.size + 1) p q dz ?_ ?_ m8 rfl ?_); (focus rfl); (focus rfl); intro w4 e8 g4 z3; have e7' := e7.keep g4 (by omega); have m3 := m2.next (X := fun _ => False) g4 (fun k hk h => by omega)))
    have b0 := b0.keep m3 (fun h => h)
    have b1 := b1.keep m3 (fun h => h)
    have b2 := b2.keep m3 (fun h => h)
    have k3 := k2.trans m3
    obtain ⟨B, hB⟩ : ∃ B, w2.heap.size = B := ⟨_, rfl⟩
    have hNB : N + 3 ≤ B := by have := hb2; omega
    have e8'lt := e8.lt
    rw [hB] at e7' e8 e8'lt ⊢
    clear n7 n8 m1 e7 g3 z2 m8 m2 g4 z3 m3 hB k2
    by_cases h0 : e0 = 0
    · subst h0
      have hDe : D = (vn, l.filter (fun x => !decide (x.d ∈ over)), (p, q), 0) := by rw [HDE.out, if_pos rfl]
      subst hDe
      clear HDE
      have lV := load_rvec e7'
      have n12 := Blk.alloc w4 47 rz
      have hs0 := h.keepF k3
      have ho0 := ho.keepF k3
      go_upto_region 7 with (first
        | ((with_reducible refine wpl_load rfl _ rfl ?_ lV ?_); (focus rfl))
        | ((with_reducible refine wpl_store_blk rfl 47 _ _ rfl w4.heap.size (rgc vn (.slice none 0 0)) rz ?_ ?_ n12 rfl ?_ ?_ ?_); (focus rfl); (focus rfl); (focus (show _ = some 9; kernel_rfl)); (focus (simp [Value.oneCell'])); intro w5 e12 g5 z5))
      obtain ⟨B2, hB2⟩ : ∃ B2, w4.heap.size = B2 := ⟨_, rfl⟩
      have HLT := Lib.hid (show w4.heap.size = B2 from hB2)
      have g5' : Frm (fun _ => False) w4 w5 := ((Frm.refl _ w4).alloc _).next g5 (fun k hk h => by have h : k = w4.heap.size := h; omega)
      rw [hB2] at e12 ⊢
      have F0 : FillT 47 w4 B2 vn ((l.take 0).filter (fun x => !decide (x.d ∈ over))) (.slice none 0 0) w5 := ⟨e12, by rw [List.take_zero]; exact OwnL.nil_ _, fun _ h => (by cases h), g5', Nat.le_of_eq hB2⟩
      have HB0 := Lib.hid (fun W (g : Frm (fun _ => False) w4 W) => b0.keep g (fun h => h))
      have HB12 := Lib.hid (fun W (g : Frm (fun _ => False) w4 W) => And.intro (b1.keep g (fun h => h)) (b2.keep g (fun h => h)))
      have HE8 := Lib.hid (fun W (g : Frm (fun _ => False) w4 W) => e8.keep g (fun h => h))
      clear lV n12 g5 z5 hB2 b0 b1 b2 e7' e8 e12 g5'
      go_wp2_with fail
      go_loopw [13] (fun i wr => ∃ (k : Nat) (u : Value), k ≤ l.length ∧ i = .int .i64 k ∧ FillT 47 w4 B2 vn ((l.take k).filter (fun x => !decide (x.d ∈ over))) u wr) (fun i _ => l.length - (intOf i).toNat)
      case atStart => exact ⟨0, _, Nat.zero_le _, rfl, F0⟩
      case round =>
        obtain ⟨k, u, hk, rfl, F1⟩ := hrel
        clear F0
        have HF := Lib.hid F1
        have c8 := (HB0.out wr F1.frm).cell 8 rfl
        clear F1
        by_cases hlt : k < l.length
        · obtain ⟨g, off, rfl, x0, x1, x2⟩ := (hs0.keepF HF.out.frm).cells k hlt
          have hki' : (k : Int) < (l.length : Int) := by omega
          have hk0 : (0 : Int) ≤ (k : Int) := by omega
          have HI := Lib.hid (rin_any _ over l[k].d wr (ho0.keepF HF.out.frm))
          have HTK := Lib.hid (show (l.take (k + 1)).filter (fun x => !decide (x.d ∈ over)) = (l.take k).filter (fun x => !decide (x.d ∈ over)) ++ [l[k]].filter (fun x => !decide (x.d ∈ over)) by rw [List.take_succ_eq_append_getElem hlt, List.filter_append])
          have hfl : ((l.take k).filter (fun x => !decide (x.d ∈ over))).length ≤ l.length := Nat.le_trans (List.length_filter_le _ _) (by rw [List.length_take]; omega)
          go_wp2_with fail
          refine HI.out.mono ?_
          rintro e w6 ⟨rfl, f6⟩
          replace HF := Lib.hid (HF.out.keep f6)
          have HX : Hid (∀ W, Frm (fun _ => False) w6 W → W.cell? ⟨g, off + k * 3, none⟩ = some (.int .u8 l[k].r) ∧ W.cell? ⟨g, off + k * 3 + 1, none⟩ = some (.int .u32 l[k].n) ∧ W.cell? ⟨g, off + k * 3 + 2, none⟩ = some (.string (bs l[k].s))) := Lib.hid fun W gW => by
            obtain ⟨g2, off2, e, x0, x1, x2⟩ := (hs0.keepF (HF.out.frm.trans gW)).cells k hlt
            cases e
            exact ⟨x0, x1, x2⟩
          have HB : Hid (∀ W, Frm (fun _ => False) w6 W → Blk W N 47 (rgc f (.slice (some ⟨g, off, none⟩) l.length cap))) := Lib.hid fun W gW => HB0.out W (HF.out.frm.trans gW)
          clear f6 HI c8 x0 x1 x2
          cases hq : decide (l[k].d ∈ over) with
          | true =>
            have HNX := Lib.hid (show (l.take (k + 1)).filter (fun x => !decide (x.d ∈ over)) = (l.take k).filter (fun x => !decide (x.d ∈ over)) by rw [HTK.out]; simp [of_decide_eq_true hq])
            clear hq HTK
            go_wp2_with fail
            go_roundw
            case rel => exact ⟨k + 1, u, by omega, by go_num, by rw [HNX.out]; exact HF.out⟩
            case measure => simp [intOf]; omega
          | false =>
            have HNX := Lib.hid (show (l.take (k + 1)).filter (fun x => !decide (x.d ∈ over)) = (l.take k).filter (fun x => !decide (x.d ∈ over)) ++ [l[k]] by rw [HTK.out]; simp [of_decide_eq_false hq])
            clear hq HTK
            obtain ⟨x, hx⟩ : ∃ x, l[k] = x := ⟨_, rfl⟩
            obtain ⟨n, hn⟩ : ∃ n, l.length = n := ⟨_, rfl⟩
            rw [hx] at HX HNX
            rw [hn] at HB
            have hki : (k : Int) < (n : Int) := by omega
            have HN2 := Lib.hid hn
            clear hx hn
            generalize (l.take k).filter (fun x => !decide (x.d ∈ over)) = lf at *
            go_upto_region 11 with fail
            rename_i hK
            have D : Frm (fun _ => False) w6 w6.drew := (Frm.refl _ _).drew
            refine wp_region_late 8 3 [] [[], [0], [], [2], [], [3, 4], [5], [6]] dr11M (dr11R u B2 N g off k n cap x) (by kernel_rfl) rfl rfl rfl (by kernel_rfl) (by kernel_rfl) (by kernel_rfl) (by kernel_rfl) rfl (by kernel_rfl) (by kernel_rfl) (by kernel_rfl) (by kernel_rfl) (fun val => ?_) ?_
            · try simp only [Act.put, List.setIfInBounds_toArray, List.set_cons_zero, List.set_cons_succ]
              refine RelO.next (k' := 1) rfl (fun W gW hF => ?_) ?_
              focus
                refine OpOK.val (u := .pointer (some ⟨B2, 8, none⟩)) (by rfl) ?_ (fun W' _ => rfl)
                try simp only [tupAt]
                first | (go_simp; done) | (go_simp; with_reducible rfl) | (go_simp; rfl)
              try simp only [Act.put, List.setIfInBounds_toArray, List.set_cons_zero, List.set_cons_succ]
              refine RelO.next (k' := 2) rfl (fun W gW hF => ?_) ?_
              focus
                obtain ⟨h0, _⟩ := hF
                have e0 : val 0 = .pointer (some ⟨B2, 8, none⟩) := h0 _ (Frm.refl _ W)
                try simp only [e0]
                try simp only [tupAt]
                have c8 := (HF.out.keep (D.trans gW)).blk.cell 8 rfl
                have a3 := Try.isAgg45
                have z3 := Try.sizeOf45
                exact OpOK.val (u := u) (by rfl) (by first | (go_simp; done) | (go_simp; with_reducible rfl) | (go_simp; rfl)) (fun W' _ => rfl)
              try simp only [Act.put, List.setIfInBounds_toArray, List.set_cons_zero, List.set_cons_succ]
              refine RelO.next (k' := 3) rfl (fun W gW hF => ?_) ?_
              focus
                refine OpOK.val (u := .pointer (some ⟨N, 8, none⟩)) (by rfl) ?_ (fun W' _ => rfl)
                try simp only [tupAt]
                first | (go_simp; done) | (go_simp; with_reducible rfl) | (go_simp; rfl)
              try simp only [Act.put, List.setIfInBounds_toArray, List.set_cons_zero, List.set_cons_succ]
              refine RelO.next (k' := 4) rfl (fun W gW hF => ?_) ?_
              focus
                obtain ⟨h2, _⟩ := hF
                have e2 : val 2 = .pointer (some ⟨N, 8, none⟩) := h2 _ (Frm.refl _ W)
                try simp only [e2]
                try simp only [tupAt]
                have c8 := (HB.out W (D.trans gW)).cell 8 rfl
                have a3 := Try.isAgg45
                have z3 := Try.sizeOf45
                exact OpOK.val (u := .slice (some ⟨g, off, none⟩) n cap) (by rfl) (by first | (go_simp; done) | (go_simp; with_reducible rfl) | (go_simp; rfl)) (fun W' _ => rfl)
              try simp only [Act.put, List.setIfInBounds_toArray, List.set_cons_zero, List.set_cons_succ]
              refine RelO.next (k' := 5) rfl (fun W gW hF => ?_) ?_
              focus
                refine OpOK.val (u := .int .i64 (k : Int)) (by rfl) ?_ (fun W' _ => rfl)
                try simp only [tupAt]
                first | (go_simp; done) | (go_simp; with_reducible rfl) | (go_simp; rfl)
              try simp only [Act.put, List.setIfInBounds_toArray, List.set_cons_zero, List.set_cons_succ]
              refine RelO.next (k' := 6) rfl (fun W gW hF => ?_) ?_
              focus
                obtain ⟨h3, h4, _⟩ := hF
                have e3 : val 3 = .slice (some ⟨g, off, none⟩) n cap := h3 _ (Frm.refl _ W)
                have e4 : val 4 = .int .i64 (k : Int) := h4 _ (Frm.refl _ W)
                try simp only [e4]
                try simp only [e3]
                try simp only [tupAt]
                refine OpOK.val (u := .pointer (some ⟨g, off + k * 3, none⟩)) (by rfl) ?_ (fun W' _ => rfl)
                try simp only [e4]
                try simp only [e3]
                try simp only [tupAt]
                first | (go_simp; done) | (go_simp; with_reducible rfl) | (go_simp; rfl)
              try simp only [Act.put, List.setIfInBounds_toArray, List.set_cons_zero, List.set_cons_succ]
              refine RelO.next (k' := 7) rfl (fun W gW hF => ?_) ?_
              focus
                obtain ⟨h5, _⟩ := hF
                have e5 : val 5 = .pointer (some ⟨g, off + k * 3, none⟩) := h5 _ (Frm.refl _ W)
                try simp only [e5]
                try simp only [tupAt]
                obtain ⟨x0, x1, x2⟩ := HX.out W (D.trans gW)
                exact OpOK.val (u := .agg #[.int .u8 x.r, .int .u32 x.n, .string (bs x.s)]) (by rfl) (by first | (go_simp; done) | (go_simp; with_reducible rfl) | (go_simp; rfl)) (fun W' _ => rfl)
              try simp only [Act.put, List.setIfInBounds_toArray, List.set_cons_zero, List.set_cons_succ]
              refine RelO.next (k' := 8) rfl (fun W gW hF => ?_) ?_
              focus
                obtain ⟨h6, _⟩ := hF
                have e6 : val 6 = .agg #[.int .u8 x.r, .int .u32 x.n, .string (bs x.s)] := h6 _ (Frm.refl _ W)
                try simp only [e6]
                try simp only [tupAt]
                refine OpOK.made (W' := W.alloc (.cells #[.int .u8 x.r, .int .u32 x.n, .string (bs x.s)] 105)) (u := .slice (some ⟨W.heap.size, 0, none⟩) 1 1) (by rfl) ?_ ((Frm.refl _ W).alloc _) (fun W2 g2 => ⟨_, rfl, (Sl.one W 105 x).keepF g2⟩)
                first | (go_simp; done) | (go_simp; with_reducible rfl) | (go_simp; rfl)
              try simp only [Act.put, List.setIfInBounds_toArray, List.set_cons_zero, List.set_cons_succ]
              exact RelO.nil
            intro val W gW hF
            obtain ⟨h0, h1, h2, h3, h4, h5, h6, h7, _⟩ := hF
            have e0 : val 0 = .pointer (some ⟨B2, 8, none⟩) := h0 _ (Frm.refl _ W)
            have e1 : val 1 = u := h1 _ (Frm.refl _ W)
            have e2 : val 2 = .pointer (some ⟨N, 8, none⟩) := h2 _ (Frm.refl _ W)
            have e3 : val 3 = .slice (some ⟨g, off, none⟩) n cap := h3 _ (Frm.refl _ W)
            have e4 : val 4 = .int .i64 (k : Int) := h4 _ (Frm.refl _ W)
            have e5 : val 5 = .pointer (some ⟨g, off + k * 3, none⟩) := h5 _ (Frm.refl _ W)
            have e6 : val 6 = .agg #[.int .u8 x.r, .int .u32 x.n, .string (bs x.s)] := h6 _ (Frm.refl _ W)
            have q7 : ∃ z, (val 7) = z ∧ SL W z [x] := h7 _ (Frm.refl _ W)
            obtain ⟨x57, e7, o57⟩ := q7
            clear h0 h1 h2 h3 h4 h5 h6 h7
            simp only [aO, Act.put, List.setIfInBounds_toArray, List.set_cons_zero, List.set_cons_succ, Nat.reduceAdd]
            try simp only [e7]
            try simp only [e6]
            try simp only [e5]
            try simp only [e4]
            try simp only [e3]
            try simp only [e2]
            try simp only [e1]
            try simp only [e0]
            try simp only [tupAt]
            refine tail_fillR (w0 := w4) B2 vn lf [x] (by simp; omega) u x57 rfl rfl rfl rfl rfl rfl rfl rfl rfl rfl rfl rfl rfl rfl (HF.out.keep (D.trans gW)) o57 (fun v' W' => ?_) (fun v' => rfl) (fun v' => rfl) ?_
            · first | (go_simp; done) | (go_simp; with_reducible rfl) | (go_simp; rfl)
            intro v' w' F2
            try simp only [Act.put, List.setIfInBounds_toArray, List.set_cons_zero, List.set_cons_succ]
            refine hK _ _ ?_
            rw [← HNX.out] at F2
            clear e0 e1 e2 e3 e4 e5 e6 o57 gW hK HF
            go_wp2_with fail
            go_roundw
            case rel => exact ⟨k + 1, v', by omega, by go_num, F2⟩
            case measure => simp [intOf]; omega
        · obtain rfl : k = l.length := by omega
          have F8 := HF.out
          rw [List.take_length] at F8
          clear HF
          obtain ⟨lf, hlf⟩ : ∃ lf, l.filter (fun x => !decide (x.d ∈ over)) = lf := ⟨_, rfl⟩
          rw [hlf] at F8
          have HLF := Lib.hid hlf
          clear hlf
          obtain ⟨b1, b2⟩ := HB12.out wr F8.frm
          have e8 := HE8.out wr F8.frm
          obtain ⟨a3, c3, rfl, _, _⟩ := Row.slice F8.own
          have hsz4 : N + 3 ≤ w4.heap.size := by omega
          have hB2lo := F8.lo
          go_upto_region 12 with fail
          refine wp_region_held_drew (S := fun w' : World => (Instr.loadAt 47 (.pointer (some ⟨B2, 0, none⟩))).run Try.prog w' = .ok (.agg (rgc vn (.slice a3 lf.length c3))) w' ∧ (Instr.loadAt 48 (.pointer (some ⟨B + 1, 0, none⟩))).run Try.prog w' = .ok (.agg (dv p q)) w' ∧ Frm (fun k => k = N + 1 ∨ k = N + 1 + 1) wr w') (by kernel_rfl) ⟨load_rreg F8.blk.drew, load_rdotB e8.drew, (Frm.refl _ wr).drew⟩ (fun hHeld => ?_)
          refine wpAnyH_take (i := 0) (v := .agg (rgc vn (.slice a3 lf.length c3))) rfl (by kernel_rfl) (by kernel_rfl) (by kernel_rfl) (fun _ _ _ h => h) ?z0 (by assumption) ?_
          case z0 => (refine yieldsIf_load (by rfl) _ (by rfl) ?_ (fun w hs => hs.1); rfl)
          try simp only [Act.put]
          refine wpAnyH_take (i := 1) (v := .agg (dv p q)) rfl (by kernel_rfl) (by kernel_rfl) (by kernel_rfl) (fun _ _ _ h => h) ?z1 (by assumption) ?_
          case z1 => (refine yieldsIf_load (by rfl) _ (by rfl) ?_ (fun w hs => hs.2.1); rfl)
          try simp only [Act.put]
          clear hHeld
          refine seq_stores (i := 2) (j := 3) (k := 4) rfl rfl rfl rfl rfl rfl (by kernel_rfl) (by kernel_rfl) (by kernel_rfl) (by kernel_rfl)
            47 _ _ rfl (N + 1) (rgc vn (.slice a3 lf.length c3)) rz rfl rfl 48 _ _ rfl (N + 1 + 1) (dv p q) dz rfl rfl
            b1.drew rfl (by show _ = some 9; kernel_rfl) (rg_one _ _ _ _) b2.drew rfl (by show _ = some 2; kernel_rfl) (by simp [Value.oneCell']) (by omega) ?hS ?hK
          case hS =>
            intro w6 f6
            exact ⟨load_rreg (F8.blk.drew.keep f6 (by omega)), load_rdotB (e8.drew.keep f6 (by omega)), (Frm.refl _ wr).drew.trans f6⟩
          case hK =>
            intro w6 c1 c2 f6 _
            have hS6 : (fun w' : World => (Instr.loadAt 47 (.pointer (some ⟨B2, 0, none⟩))).run Try.prog w' = .ok (.agg (rgc vn (.slice a3 lf.length c3))) w' ∧ (Instr.loadAt 48 (.pointer (some ⟨B + 1, 0, none⟩))).run Try.prog w' = .ok (.agg (dv p q)) w' ∧ Frm (fun k => k = N + 1 ∨ k = N + 1 + 1) wr w') w6 := ⟨load_rreg (F8.blk.drew.keep f6 (by omega)), load_rdotB (e8.drew.keep f6 (by omega)), (Frm.refl _ wr).drew.trans f6⟩
            refine wpOp_plain0 rfl rfl (fun K' hK' => ?_)
            unfold Oper.wp execOp
            go_simp
            refine hK' _ _ ⟨hS6, ?_⟩
            have g7 := hS6.2.2
            clear hK' hS6 K'
            have c8 := c1.cell 8 rfl
            have h2 := rcellsT c1
            have d0 := c2.cell 0 rfl
            have d1 := c2.cell 1 rfl
            have hlo := fun g e => (F8.out g e).1
            have o7 := F8.own.keep g7 (fun g e h => by have := hlo g e; omega)
            try simp only [Act.put, List.setIfInBounds_toArray, List.set_cons_zero, List.set_cons_succ]
            go_wp2_with fail
            refine bodyPost_ret (v := .tuple #[rg vn (.slice a3 lf.length c3), .agg (dv p q), .int .i64 0]) (by simp [results, Try.results27, go_sem, h2, c8, d0, d1]) rfl ?_
            exact ⟨_, rfl, by simp only [HLF.out]; exact o7, (fun g e => by have := hlo g e; have := HN.out; omega), (k3.trans F8.frm).next g7 (fun k hk h => by have := HN.out; omega)⟩
    · have hDe : D = (fun _ => 0, [], (0, 0), e0) := by rw [HDE.out, if_neg h0]
      subst hDe
      have h0i : ((e0 : Int) != 0) = true := by simp; exact h0
      clear h0
      go_wp2_with (first
        | ((with_reducible refine wpl_store_blk rfl 47 _ _ rfl (N + 1) rz rz ?_ ?_ b1 rfl ?_ ?_ ?_); (focus rfl); (focus rfl); (focus (show _ = some 9; kernel_rfl)); (focus (simp [Value.oneCell'])); intro w2 e2 g2 z2; have d3 := b2.keep g2 (by omega))
        | ((with_reducible refine wpl_store_rdot rfl _ _ rfl (N + 1 + 1) 0 0 dz ?_ ?_ d3 rfl ?_); (focus rfl); (focus rfl); intro w3 e3 g3 z3; have h2 := e2.keep g3 (by omega); have c8 := h2.cell 8 rfl; have h2 := rcellsT (show Blk _ _ _ (rgc (fun _ => 0) (.slice none 0 0)) from h2); have d0 := e3.cell 0 rfl; have d1 := e3.cell 1 rfl))
      refine bodyPost_ret (v := .tuple #[rg (fun _ => 0) (.slice none 0 0), .agg (dv 0 0), .int .i64 e0]) (by simp [results, Try.results27, go_sem, h2, c8, d0, d1]) rfl ?_
      exact ⟨_, rfl, OwnL.nil_ _, (fun g hg => by cases hg), (k3.next g2 (fun k hk h => by have h : k = N + 1 := h; have := HN.out; omega)).next g3 (fun k hk h => by have h : k = N + 1 + 1 := h; have := HN.out; omega)⟩
end Go.Proofs.Ytmdmkcofafhlcaa

