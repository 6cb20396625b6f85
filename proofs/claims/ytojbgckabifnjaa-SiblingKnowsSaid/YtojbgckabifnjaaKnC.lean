/- The register of what is known. No condition but that the replicas are below eight. -/
import Derived.Test.YtojbgckabifnjaaKnA
import Derived.Test.YtojbgckabifnjaaSwK
namespace Go.Proofs.Ytojbgckabifnjaa
open Go.RowKit

theorem rin_sib (v : Value) (l : List DotI) (x : SibI) (w : World) (h : DL w v l) : Calls Try.prog 62 #[v, .agg (dv x.r x.n)] w fun e w' => e = .returned (.bool (decide (x.d ∈ l))) ∧ Frm (fun _ => False) w w' := rin_any v l x.d w h
/-- Is a dot named by events? -/
def nmK (Q : List EvI) (d : DotI) : Bool := decide (∃ e ∈ Q, d ∈ e.o)
theorem nmK_nil (d : DotI) : nmK [] d = false := by simp [nmK]
theorem nmK_take (Q : List EvI) (d : DotI) (k : Nat) (h : k < Q.length) : nmK (Q.take (k + 1)) d = (nmK (Q.take k) d || decide (d ∈ Q[k].o)) := by
  unfold nmK
  rw [List.take_succ_eq_append_getElem h, Bool.eq_iff_iff]
  simp only [Bool.or_eq_true, decide_eq_true_eq, List.mem_append, List.mem_singleton]
  constructor
  · rintro ⟨e, he | rfl, hd⟩
    · exact .inl ⟨e, he, hd⟩
    · exact .inr hd
  · rintro (⟨e, he, hd⟩ | hd)
    · exact ⟨e, .inl he, hd⟩
    · exact ⟨_, .inr rfl, hd⟩
theorem seenK_eq (Q : List EvI) (e : EvI) : seenK Q e = (e.is && !nmK Q e.x.d) := rfl
theorem ctxK_take (Q : List EvI) (f : Nat → Nat) (k : Nat) (h : k < Q.length) : ctxK f (Q.take (k + 1)) = if ctxK f (Q.take k) Q[k].x.r < Q[k].x.n then upd8 (ctxK f (Q.take k)) Q[k].x.r Q[k].x.n else ctxK f (Q.take k) := by
  unfold ctxK
  rw [List.take_succ_eq_append_getElem h, List.foldl_append]
  rfl
theorem sibK_take (P Q : List EvI) (k : Nat) (h : k < Q.length) : sibK P [] (Q.take (k + 1)) = if seenK P Q[k] then putL (sibK P [] (Q.take k)) Q[k].x else sibK P [] (Q.take k) := by
  unfold sibK
  rw [List.take_succ_eq_append_getElem h, List.filter_append, List.map_append, List.foldl_append]
  cases c : seenK P Q[k] <;> simp [c]
theorem sibK_len (P Q : List EvI) : (sibK P [] Q).length ≤ Q.length := by
  unfold sibK
  rw [(puts_perm _ []).length_eq, List.nil_append, List.length_map]
  exact List.length_filter_le _ _
def kr12nM : List Nat := [1, 3, 7, 15, 19, 63, 127, 255, 259, 1023, 2047, 4095]
def kr12nR : List ((Nat → Value) → World → Prop) := [
  fun val _ => val 0 = .bool true,
  fun val _ => val 1 = .bool true,
  fun val _ => val 2 = undef,
  fun val _ => val 3 = undef,
  fun val _ => val 4 = undef,
  fun val _ => val 5 = undef,
  fun val _ => val 6 = undef,
  fun val _ => val 7 = undef,
  fun val _ => val 8 = undef,
  fun val _ => val 9 = undef,
  fun val _ => val 10 = .bool true,
  fun val _ => val 11 = .bool true]
def kr12tM : List Nat := [1, 3, 7, 15, 19, 63, 127, 255, 259, 1023, 2047, 4095]
def kr12tR (A g off j cap : Nat) (P : List (EvI × Value)) (x y : EvI × Value) : List ((Nat → Value) → World → Prop) := [
  fun val _ => val 0 = .bool false,
  fun val _ => val 1 = .bool false,
  fun val _ => val 2 = .pointer (some ⟨A, 0, none⟩),
  fun val _ => val 3 = .slice (some ⟨g, off, none⟩) P.length cap,
  fun val _ => val 4 = .int .i64 (j : Int),
  fun val _ => val 5 = .pointer (some ⟨g, off + j * 5, none⟩),
  fun val _ => val 6 = .pointer (some ⟨g, off + j * 5 + 4, none⟩),
  fun val _ => val 7 = y.2,
  fun val _ => val 8 = .agg (dv x.1.x.r x.1.x.n),
  fun val _ => val 9 = .bool true,
  fun val _ => val 10 = .bool true,
  fun val _ => val 11 = .bool true]
def kr12fM : List Nat := [1, 3, 7, 15, 19, 63, 127, 255, 259, 1023, 2047, 4095]
def kr12fR (A g off j cap : Nat) (P : List (EvI × Value)) (x y : EvI × Value) : List ((Nat → Value) → World → Prop) := [
  fun val _ => val 0 = .bool false,
  fun val _ => val 1 = .bool false,
  fun val _ => val 2 = .pointer (some ⟨A, 0, none⟩),
  fun val _ => val 3 = .slice (some ⟨g, off, none⟩) P.length cap,
  fun val _ => val 4 = .int .i64 (j : Int),
  fun val _ => val 5 = .pointer (some ⟨g, off + j * 5, none⟩),
  fun val _ => val 6 = .pointer (some ⟨g, off + j * 5 + 4, none⟩),
  fun val _ => val 7 = y.2,
  fun val _ => val 8 = .agg (dv x.1.x.r x.1.x.n),
  fun val _ => val 9 = .bool false,
  fun val _ => val 10 = .bool false,
  fun val _ => val 11 = .bool false]
def kr14M : List Nat := [1, 3, 4, 8, 24, 32, 120, 248, 504, 1020, 2047, 4095, 6143]
def kr14R (A g off k cap B : Nat) (u : Value) (lf : List SibI) (P : List (EvI × Value)) (x : EvI × Value) : List ((Nat → Value) → World → Prop) := [
  fun val _ => val 0 = .pointer (some ⟨B, 8, none⟩),
  fun val _ => val 1 = u,
  fun val _ => val 2 = .agg (dv x.1.x.r x.1.x.n),
  fun val _ => val 3 = .pointer (some ⟨A, 0, none⟩),
  fun val _ => val 4 = .slice (some ⟨g, off, none⟩) P.length cap,
  fun val _ => val 5 = .int .i64 (k : Int),
  fun val _ => val 6 = .pointer (some ⟨g, off + k * 5, none⟩),
  fun val _ => val 7 = .pointer (some ⟨g, off + k * 5 + 3, none⟩),
  fun val _ => val 8 = .string (bs x.1.x.s),
  fun val _ => val 9 = .agg #[.int .u8 x.1.x.r, .int .u32 x.1.x.n, .string (bs x.1.x.s)],
  fun val W => ∃ z, (val 10) = z ∧ OwnL W z (putL lf x.1.x) ∧ ∀ g, z.ownBlock = some g → B < g]

set_option maxRecDepth 100000 in
set_option maxHeartbeats 8000000 in
theorem knreg_any (u0 : Value) (P : List (EvI × Value)) (w : World) (h : KL w u0 P) (hr : ∀ p ∈ P, p.1.x.r < 8) (hb : P.length ≤ 900) :
    Calls Try.prog 41 #[.agg #[u0]] w fun e w' => ∃ v', e = .returned (rg (ctxK (fun _ => 0) (P.map Prod.fst)) v') ∧ SL w' v' (sibK (P.map Prod.fst) [] (P.map Prod.fst)) ∧ Frm (fun _ => False) w w' := by
  obtain ⟨a, cap, rfl, hc1, hc2⟩ := h.slice
  unfold maxLen at hc2
  obtain ⟨QE, hQE⟩ : ∃ QE, P.map Prod.fst = QE := ⟨_, rfl⟩
  rw [hQE]
  have g0 : Frm (fun _ => False) w ((w.alloc (.cells #[.slice a P.length cap] 82)).alloc (.cells rz 47)) := ((Frm.refl _ w).alloc _).alloc _
  have b0 : Blk ((w.alloc (.cells #[.slice a P.length cap] 82)).alloc (.cells rz 47)) w.heap.size 82 #[.slice a P.length cap] := (Blk.alloc w _ _).old _
  have b1 : Blk ((w.alloc (.cells #[.slice a P.length cap] 82)).alloc (.cells rz 47)) (w.heap.size + 1) 47 rz := Blk.at1 w _ _ _
  go_enter Try.func41, Try.ntmps41
  go_upto_region 1 with fail
  generalize (w.alloc (.cells #[.slice a P.length cap] 82)).alloc (.cells rz 47) = w2 at *
  obtain ⟨A, hA⟩ : ∃ A, w.heap.size = A := ⟨_, rfl⟩
  have HA := Lib.hid hA
  rw [hA] at b0 b1 ⊢
  have hQl : QE.length = P.length := by rw [← hQE, List.length_map]
  have HQk : Hid (∀ k (hk : k < P.length), QE[k]'(by rw [hQl]; exact hk) = P[k].1) := Lib.hid fun k hk => by simp [← hQE]
  have HHR := Lib.hid hr
  have HK : Hid (∀ W, Frm (fun _ => False) w2 W → KL W (.slice a P.length cap) P) := Lib.hid fun W g => h.keepF (g0.trans g)
  have HB0 : Hid (∀ W, Frm (fun _ => False) w2 W → Blk W A 82 #[.slice a P.length cap]) := Lib.hid fun W g => b0.keep g (fun h => h)
  have HB1 : Hid (∀ W, Frm (fun _ => False) w2 W → Blk W (A + 1) 47 rz) := Lib.hid fun W g => b1.keep g (fun h => h)
  have HG0 := Lib.hid g0
  have hA2 : A + 2 ≤ w2.heap.size := b1.lt
  have b6 := Blk.alloc w2 47 rz
  clear h hr hA hQE g0 b0 b1
  go_upto_region 2 with ((with_reducible refine wpl_store_blk rfl 47 _ _ rfl w2.heap.size rz rz ?_ ?_ b6 rfl ?_ ?_ ?_); (focus rfl); (focus rfl); (focus (show _ = some 9; kernel_rfl)); (focus (simp [Value.oneCell'])); intro w3 e6 g3 z3)
  have g3' : Frm (fun _ => False) w2 w3 := ((Frm.refl _ w2).alloc _).next g3 (fun k hk h => by have h : k = w2.heap.size := h; omega)
  obtain ⟨B, hB⟩ : ∃ B, w2.heap.size = B := ⟨_, rfl⟩
  have HBE := Lib.hid hB
  rw [hB] at e6 hA2 ⊢
  have F0 : FillT 47 w2 B (ctxK (fun _ => 0) (QE.take 0)) (sibK QE [] (QE.take 0)) (.slice none 0 0) w3 := ⟨e6, by rw [List.take_zero]; exact OwnL.nil_ _, fun _ h => (by cases h), g3', Nat.le_of_eq hB⟩
  clear b6 e6 g3 z3 g3' hB
  go_wp2_with fail
  go_loopw [4] (fun i wr => ∃ (k : Nat) (u : Value), k ≤ P.length ∧ i = .int .i64 k ∧ FillT 47 w2 B (ctxK (fun _ => 0) (QE.take k)) (sibK QE [] (QE.take k)) u wr) (fun i _ => P.length - (intOf i).toNat)
  case atStart => exact ⟨0, _, Nat.zero_le _, rfl, F0⟩
  case round =>
    obtain ⟨k, u, hk, rfl, F1⟩ := hrel
    clear F0
    have HF := Lib.hid F1
    have c8 := (HB0.out wr F1.frm).cell 0 rfl
    clear F1
    by_cases hlt : k < P.length
    · obtain ⟨g, off, rfl, x0, x1, x2, x3, x4⟩ := (HK.out wr HF.out.frm).cells k hlt
      obtain ⟨x, hx⟩ : ∃ x, P[k] = x := ⟨_, rfl⟩
      have HXE := Lib.hid hx
      have HXR := Lib.hid (show x.1.x.r < 8 from hx ▸ HHR.out _ (List.getElem_mem hlt))
      have HQX : Hid (QE[k]'(by rw [hQl]; exact hlt) = x.1) := Lib.hid ((HQk.out k hlt).trans (by rw [hx]))
      rw [hx] at x0 x1 x2 x3 x4
      have HX : Hid (∀ W, Frm (fun _ => False) wr W → W.cell? ⟨g, off + k * 5 + 2, none⟩ = some (.bool x.1.is) ∧ W.cell? ⟨g, off + k * 5 + 3, none⟩ = some (.string (bs x.1.x.s))) := Lib.hid fun W hW => by
        obtain ⟨g', off', e, _, _, y2, y3, _⟩ := (HK.out W (HF.out.frm.trans hW)).cells k hlt
        cases e
        rw [hx] at y2 y3
        exact ⟨y2, y3⟩
      have HCT := Lib.hid (ctxK_take QE (fun _ => 0) k (by rw [hQl]; exact hlt))
      have HST := Lib.hid (sibK_take QE QE k (by rw [hQl]; exact hlt))
      rw [HQX.out] at HCT HST
      have hlen : (sibK QE [] (QE.take k)).length ≤ 900 := Nat.le_trans (sibK_len _ _) (by rw [List.length_take]; omega)
      have hki : (k : Int) < (P.length : Int) := by omega
      have hk0 : (0 : Int) ≤ (k : Int) := by omega
      have bd := Blk.alloc wr 48 dz
      clear hx x2 x3 x4
      go_upto_region 6 with ((with_reducible refine wpl_store_rdot rfl _ _ rfl wr.heap.size x.1.x.r x.1.x.n dz ?_ ?_ bd rfl ?_); (focus rfl); (focus rfl); intro w4 e4 g4 z4)
      rename_i hKb Kc hKc Kd hKd
      have g4' : Frm (fun _ => False) wr w4 := ((Frm.refl _ wr).alloc _).next g4 (fun k hk h => by have h : k = wr.heap.size := h; omega)
      obtain ⟨BD, hBD⟩ : ∃ BD, wr.heap.size = BD := ⟨_, rfl⟩
      rw [hBD] at e4 ⊢
      have hBBD : B < BD := by rw [← hBD]; exact HF.out.blk.lt
      have HBD : Hid (∀ W, Frm (fun _ => False) w4 W → Blk W BD 48 (dv x.1.x.r x.1.x.n)) := Lib.hid fun W g => e4.keep g (fun h => h)
      replace HF := Lib.hid (HF.out.keep g4')
      replace HX := Hid.grow HX g4'
      obtain ⟨cf, hcf⟩ : ∃ cf, ctxK (fun _ => 0) (QE.take k) = cf := ⟨_, rfl⟩
      obtain ⟨lf, hlf⟩ : ∃ lf, sibK QE [] (QE.take k) = lf := ⟨_, rfl⟩
      rw [hcf] at HF HCT
      rw [hlf] at HF HST hlen
      clear x0 x1 c8 bd g4 z4 hcf hlf hBD
      have d0 := e4.cell 0 rfl
      have d1 := e4.cell 1 rfl
      have cB := rcellsT HF.out.blk x.1.x.r HXR.out
      have hri : (x.1.x.r : Int) < 8 := by have := HXR.out; omega
      have hr0 : (0 : Int) ≤ (x.1.x.r : Int) := by omega
      clear e4 g4'
      by_cases hgt : cf x.1.x.r < x.1.x.n
      · have hgd : ¬ x.1.x.n ≤ cf x.1.x.r := by omega
        obtain ⟨cn, hcn⟩ : ∃ cn, upd8 cf x.1.x.r x.1.x.n = cn := ⟨_, rfl⟩
        have HCX := Lib.hid (HCT.out.trans ((if_pos hgt).trans hcn))
        clear hgt
        go_quiet (fail)
        have HEB2 := Lib.hid (HF.out.keep ((Frm.refl (fun _ => False) w4).drewN nq))
        replace HBD := Hid.grow HBD ((Frm.refl (fun _ => False) w4).drewN nq)
        replace HX := Hid.grow HX ((Frm.refl (fun _ => False) w4).drewN nq)
        generalize w4.drewN nq = w4' at *
        have d2 := (HBD.out w4' (Frm.refl _ _)).cell 0 rfl
        have d3 := (HBD.out w4' (Frm.refl _ _)).cell 1 rfl
        go_upto_region 8 with ((with_reducible refine wpl_store_rctx rfl _ _ rfl B x.1.x.r x.1.x.n cf u HXR.out ?_ ?_ HEB2.out.blk ?_); (focus rfl); (focus rfl); intro w5 e5 g5 z5)
        rw [hcn] at e5
        have HF5 : Hid (FillT 47 w2 B cn lf u w5) := Lib.hid ⟨e5, HEB2.out.own.keep g5 (fun g e h => (HEB2.out.out g e).2 h), HEB2.out.out, HEB2.out.frm.next g5 (fun q hq h => by have h : q = B := h; have := HEB2.out.lo; omega), HEB2.out.lo⟩
        have HBD0 := HBD
        have HX0 := HX
        replace HBD : Hid (∀ W, Frm (fun _ => False) w5 W → Blk W BD 48 (dv x.1.x.r x.1.x.n)) := Lib.hid fun W g => ((HBD0.out w4' (Frm.refl _ _)).keep g5 (by omega)).keep g (fun h => h)
        replace HX : Hid (∀ W, Frm (fun _ => False) w5 W → W.cell? ⟨g, off + k * 5 + 2, none⟩ = some (.bool x.1.is) ∧ W.cell? ⟨g, off + k * 5 + 3, none⟩ = some (.string (bs x.1.x.s))) := Lib.hid fun W hW => by
          obtain ⟨g', off', e, _, _, y2, y3, _⟩ := (HK.out W (HF5.out.frm.trans hW)).cells k hlt
          cases e
          rw [HXE.out] at y2 y3
          exact ⟨y2, y3⟩
        clear HBD0 HX0 HEB2 HF e5 g5 z5 hcn hgd d0 d1 d2 d3 cB HCT
        go_upto_region 10 with fail
        go_loopw [6, 7] (fun nm i wr => ∃ j : Nat, j ≤ P.length ∧ i = .int .i64 j ∧ nm = .bool (nmK (QE.take j) x.1.x.d) ∧ Frm (fun _ => False) w5 wr) (fun _ i _ => P.length - (intOf i).toNat)
        case atStart => exact ⟨0, Nat.zero_le _, rfl, by rw [List.take_zero, nmK_nil], Frm.refl _ _⟩
        case round =>
          obtain ⟨j, hj, rfl, rfl, gj⟩ := hrel
          have HBO := HB0
          have HB0 : Hid (∀ W, Frm (fun _ => False) wr W → Blk W A 82 #[.slice (some ⟨g, off, none⟩) P.length cap]) := Lib.hid fun W g => HBO.out W ((HF5.out.frm.trans gj).trans g)
          have c9 := (HB0.out wr (Frm.refl _ _)).cell 0 rfl
          by_cases hjl : j < P.length
          · obtain ⟨y, hy⟩ : ∃ y, P[j] = y := ⟨_, rfl⟩
            have HQY : Hid (QE[j]'(by rw [hQl]; exact hjl) = y.1) := Lib.hid ((HQk.out j hjl).trans (by rw [hy]))
            have HNT := Lib.hid (nmK_take QE x.1.x.d j (by rw [hQl]; exact hjl))
            rw [HQY.out] at HNT
            have hji : (j : Int) < (P.length : Int) := by omega
            have hj0 : (0 : Int) ≤ (j : Int) := by omega
            have HY4 : Hid (∀ W, Frm (fun _ => False) wr W → W.cell? ⟨g, off + j * 5 + 4, none⟩ = some y.2) := Lib.hid fun W hW => by
              obtain ⟨g', off', e, _, _, _, _, y4⟩ := (HK.out W ((HF5.out.frm.trans gj).trans hW)).cells j hjl
              cases e
              rw [hy] at y4
              exact y4
            have HYO : Hid (∀ W, Frm (fun _ => False) wr W → DL W y.2 y.1.o) := Lib.hid fun W hW => (HK.out W ((HF5.out.frm.trans gj).trans hW)).ov y (by rw [← hy]; exact List.getElem_mem hjl)
            have HYS : Hid (∃ ya yc, y.2 = .slice ya y.1.o.length yc) := Lib.hid (by obtain ⟨ya, yc, e, _, _⟩ := (HYO.out wr (Frm.refl _ _)).slice; exact ⟨ya, yc, e⟩)
            replace HBD := Hid.grow HBD gj
            clear hy
            cases hnm : nmK (QE.take j) x.1.x.d with
            | true =>
              rw [hnm, Bool.true_or] at HNT
              have HNX := HNT
              clear hnm
              go_upto_region 12 with fail
              rename_i hK
              have D : Frm (fun _ => False) wr wr.drew := (Frm.refl _ _).drew
              clear c9
              refine wp_region_late 12 0 [] [[], [0], [1], [1, 2], [1], [1, 3, 4], [1, 5], [1, 6], [1], [1, 7, 8], [1, 9], [10]] kr12nM (kr12nR ) (by kernel_rfl) rfl rfl rfl (by kernel_rfl) (by kernel_rfl) (by kernel_rfl) (by kernel_rfl) rfl (by kernel_rfl) (by kernel_rfl) (by kernel_rfl) (by kernel_rfl) (fun val => ?_) ?_
              · try dsimp only
                refine RelO.next (k' := 1) rfl (fun W gW hF => ?_) ?_
                focus
                  refine OpOK.val (u := .bool true) (by rfl) ?_ (fun W' _ => rfl)
                  try simp only [tupAt]
                  first | (go_simp; done) | (go_simp; with_reducible rfl) | (go_simp; rfl)
                try simp only [Act.put, List.setIfInBounds_toArray, List.set_cons_zero, List.set_cons_succ]
                refine RelO.next (k' := 2) rfl (fun W gW hF => ?_) ?_
                focus
                  obtain ⟨h0, _⟩ := hF
                  have e0 : val 0 = .bool true := h0 _ (Frm.refl _ W)
                  try simp only [e0]
                  try simp only [tupAt]
                  refine OpOK.val (u := .bool true) (by rfl) ?_ (fun W' _ => rfl)
                  try simp only [e0]
                  try simp only [tupAt]
                  first | (go_simp; done) | (go_simp; with_reducible rfl) | (go_simp; rfl)
                try simp only [Act.put, List.setIfInBounds_toArray, List.set_cons_zero, List.set_cons_succ]
                refine RelO.next (k' := 3) rfl (fun W gW hF => ?_) ?_
                focus
                  obtain ⟨h1, _⟩ := hF
                  have e1 : val 1 = .bool true := h1 _ (Frm.refl _ W)
                  try simp only [e1]
                  try simp only [tupAt]
                  exact OpOK.skip (by rfl) (fun W' _ => rfl)
                try simp only [Act.put, List.setIfInBounds_toArray, List.set_cons_zero, List.set_cons_succ]
                refine RelO.next (k' := 4) rfl (fun W gW hF => ?_) ?_
                focus
                  obtain ⟨h1, h2, _⟩ := hF
                  have e1 : val 1 = .bool true := h1 _ (Frm.refl _ W)
                  have e2 : val 2 = undef := h2 _ (Frm.refl _ W)
                  try simp only [e2]
                  try simp only [e1]
                  try simp only [tupAt]
                  exact OpOK.skip (by rfl) (fun W' _ => rfl)
                try simp only [Act.put, List.setIfInBounds_toArray, List.set_cons_zero, List.set_cons_succ]
                refine RelO.next (k' := 5) rfl (fun W gW hF => ?_) ?_
                focus
                  obtain ⟨h1, _⟩ := hF
                  have e1 : val 1 = .bool true := h1 _ (Frm.refl _ W)
                  try simp only [e1]
                  try simp only [tupAt]
                  exact OpOK.skip (by rfl) (fun W' _ => rfl)
                try simp only [Act.put, List.setIfInBounds_toArray, List.set_cons_zero, List.set_cons_succ]
                refine RelO.next (k' := 6) rfl (fun W gW hF => ?_) ?_
                focus
                  obtain ⟨h1, h3, h4, _⟩ := hF
                  have e1 : val 1 = .bool true := h1 _ (Frm.refl _ W)
                  have e3 : val 3 = undef := h3 _ (Frm.refl _ W)
                  have e4 : val 4 = undef := h4 _ (Frm.refl _ W)
                  try simp only [e4]
                  try simp only [e3]
                  try simp only [e1]
                  try simp only [tupAt]
                  exact OpOK.skip (by rfl) (fun W' _ => rfl)
                try simp only [Act.put, List.setIfInBounds_toArray, List.set_cons_zero, List.set_cons_succ]
                refine RelO.next (k' := 7) rfl (fun W gW hF => ?_) ?_
                focus
                  obtain ⟨h1, h5, _⟩ := hF
                  have e1 : val 1 = .bool true := h1 _ (Frm.refl _ W)
                  have e5 : val 5 = undef := h5 _ (Frm.refl _ W)
                  try simp only [e5]
                  try simp only [e1]
                  try simp only [tupAt]
                  exact OpOK.skip (by rfl) (fun W' _ => rfl)
                try simp only [Act.put, List.setIfInBounds_toArray, List.set_cons_zero, List.set_cons_succ]
                refine RelO.next (k' := 8) rfl (fun W gW hF => ?_) ?_
                focus
                  obtain ⟨h1, h6, _⟩ := hF
                  have e1 : val 1 = .bool true := h1 _ (Frm.refl _ W)
                  have e6 : val 6 = undef := h6 _ (Frm.refl _ W)
                  try simp only [e6]
                  try simp only [e1]
                  try simp only [tupAt]
                  exact OpOK.skip (by rfl) (fun W' _ => rfl)
                try simp only [Act.put, List.setIfInBounds_toArray, List.set_cons_zero, List.set_cons_succ]
                refine RelO.next (k' := 9) rfl (fun W gW hF => ?_) ?_
                focus
                  obtain ⟨h1, _⟩ := hF
                  have e1 : val 1 = .bool true := h1 _ (Frm.refl _ W)
                  try simp only [e1]
                  try simp only [tupAt]
                  exact OpOK.skip (by rfl) (fun W' _ => rfl)
                try simp only [Act.put, List.setIfInBounds_toArray, List.set_cons_zero, List.set_cons_succ]
                refine RelO.next (k' := 10) rfl (fun W gW hF => ?_) ?_
                focus
                  obtain ⟨h1, h7, h8, _⟩ := hF
                  have e1 : val 1 = .bool true := h1 _ (Frm.refl _ W)
                  have e7 : val 7 = undef := h7 _ (Frm.refl _ W)
                  have e8 : val 8 = undef := h8 _ (Frm.refl _ W)
                  try simp only [e8]
                  try simp only [e7]
                  try simp only [e1]
                  try simp only [tupAt]
                  exact OpOK.skip (by rfl) (fun W' _ => rfl)
                try simp only [Act.put, List.setIfInBounds_toArray, List.set_cons_zero, List.set_cons_succ]
                refine RelO.next (k' := 11) rfl (fun W gW hF => ?_) ?_
                focus
                  obtain ⟨h1, h9, _⟩ := hF
                  have e1 : val 1 = .bool true := h1 _ (Frm.refl _ W)
                  have e9 : val 9 = undef := h9 _ (Frm.refl _ W)
                  try simp only [e9]
                  try simp only [e1]
                  try simp only [tupAt]
                  refine OpOK.val (u := .bool true) (by rfl) ?_ (fun W' _ => rfl)
                  try simp only [e9]
                  try simp only [e1]
                  try simp only [tupAt]
                  first | (go_simp; done) | (go_simp; with_reducible rfl) | (go_simp; rfl)
                try simp only [Act.put, List.setIfInBounds_toArray, List.set_cons_zero, List.set_cons_succ]
                refine RelO.next (k' := 12) rfl (fun W gW hF => ?_) ?_
                focus
                  obtain ⟨h10, _⟩ := hF
                  have e10 : val 10 = .bool true := h10 _ (Frm.refl _ W)
                  try simp only [e10]
                  try simp only [tupAt]
                  refine OpOK.val (u := .bool true) (by rfl) ?_ (fun W' _ => rfl)
                  try simp only [e10]
                  try simp only [tupAt]
                  first | (go_simp; done) | (go_simp; with_reducible rfl) | (go_simp; rfl)
                try simp only [Act.put, List.setIfInBounds_toArray, List.set_cons_zero, List.set_cons_succ]
                exact RelO.nil
              intro val w7 gW hF
              obtain ⟨h0, h1, h2, h3, h4, h5, h6, h7, h8, h9, h10, h11, hT⟩ := hF
              have e0 : val 0 = .bool true := h0 _ (Frm.refl _ w7)
              have e1 : val 1 = .bool true := h1 _ (Frm.refl _ w7)
              have e2 : val 2 = undef := h2 _ (Frm.refl _ w7)
              have e3 : val 3 = undef := h3 _ (Frm.refl _ w7)
              have e4 : val 4 = undef := h4 _ (Frm.refl _ w7)
              have e5 : val 5 = undef := h5 _ (Frm.refl _ w7)
              have e6 : val 6 = undef := h6 _ (Frm.refl _ w7)
              have e7 : val 7 = undef := h7 _ (Frm.refl _ w7)
              have e8 : val 8 = undef := h8 _ (Frm.refl _ w7)
              have e9 : val 9 = undef := h9 _ (Frm.refl _ w7)
              have e10 : val 10 = .bool true := h10 _ (Frm.refl _ w7)
              have e11 : val 11 = .bool true := h11 _ (Frm.refl _ w7)
              clear hT h0 h1 h2 h3 h4 h5 h6 h7 h8 h9 h10 h11
              simp only [aO, Act.put, List.setIfInBounds_toArray, List.set_cons_zero, List.set_cons_succ, Nat.reduceAdd]
              try simp only [e11]
              try simp only [e10]
              try simp only [e9]
              try simp only [e8]
              try simp only [e7]
              try simp only [e6]
              try simp only [e5]
              try simp only [e4]
              try simp only [e3]
              try simp only [e2]
              try simp only [e1]
              try simp only [e0]
              try simp only [tupAt]
              refine wpTail.doneN ?_
              refine hK _ _ ?_
              have HG7 := Lib.hid (gj.trans (D.trans gW))
              clear gW D hK gj e0 e1 e2 e3 e4 e5 e6 e7 e8 e9 e10 e11
              go_wp2_with fail
              go_roundw
              case rel => exact ⟨j + 1, by omega, by go_num, by rw [HNX.out], HG7.out⟩
              case measure => simp [intOf]; omega
            | false =>
              rw [hnm, Bool.false_or] at HNT
              clear hnm
              cases hdd : decide (x.1.x.d ∈ y.1.o) with
              | true =>
                have HD := Lib.hid hdd
                rw [hdd] at HNT
                have HNX := HNT
                clear hdd
                go_upto_region 12 with fail
                rename_i hK
                have D : Frm (fun _ => False) wr wr.drew := (Frm.refl _ _).drew
                clear c9
                refine wp_region_late 12 0 [] [[], [0], [1], [1, 2], [1], [1, 3, 4], [1, 5], [1, 6], [1], [1, 7, 8], [1, 9], [10]] kr12tM (kr12tR A g off j cap P x y) (by kernel_rfl) rfl rfl rfl (by kernel_rfl) (by kernel_rfl) (by kernel_rfl) (by kernel_rfl) rfl (by kernel_rfl) (by kernel_rfl) (by kernel_rfl) (by kernel_rfl) (fun val => ?_) ?_
                · try dsimp only
                  refine RelO.next (k' := 1) rfl (fun W gW hF => ?_) ?_
                  focus
                    refine OpOK.val (u := .bool false) (by rfl) ?_ (fun W' _ => rfl)
                    try simp only [tupAt]
                    first | (go_simp; done) | (go_simp; with_reducible rfl) | (go_simp; rfl)
                  try simp only [Act.put, List.setIfInBounds_toArray, List.set_cons_zero, List.set_cons_succ]
                  refine RelO.next (k' := 2) rfl (fun W gW hF => ?_) ?_
                  focus
                    obtain ⟨h0, _⟩ := hF
                    have e0 : val 0 = .bool false := h0 _ (Frm.refl _ W)
                    try simp only [e0]
                    try simp only [tupAt]
                    refine OpOK.val (u := .bool false) (by rfl) ?_ (fun W' _ => rfl)
                    try simp only [e0]
                    try simp only [tupAt]
                    first | (go_simp; done) | (go_simp; with_reducible rfl) | (go_simp; rfl)
                  try simp only [Act.put, List.setIfInBounds_toArray, List.set_cons_zero, List.set_cons_succ]
                  refine RelO.next (k' := 3) rfl (fun W gW hF => ?_) ?_
                  focus
                    obtain ⟨h1, _⟩ := hF
                    have e1 : val 1 = .bool false := h1 _ (Frm.refl _ W)
                    try simp only [e1]
                    try simp only [tupAt]
                    refine OpOK.val (u := .pointer (some ⟨A, 0, none⟩)) (by rfl) ?_ (fun W' _ => rfl)
                    try simp only [e1]
                    try simp only [tupAt]
                    first | (go_simp; done) | (go_simp; with_reducible rfl) | (go_simp; rfl)
                  try simp only [Act.put, List.setIfInBounds_toArray, List.set_cons_zero, List.set_cons_succ]
                  refine RelO.next (k' := 4) rfl (fun W gW hF => ?_) ?_
                  focus
                    obtain ⟨h1, h2, _⟩ := hF
                    have e1 : val 1 = .bool false := h1 _ (Frm.refl _ W)
                    have e2 : val 2 = .pointer (some ⟨A, 0, none⟩) := h2 _ (Frm.refl _ W)
                    try simp only [e2]
                    try simp only [e1]
                    try simp only [tupAt]
                    have c8 := (HB0.out W (D.trans gW)).cell 0 rfl
                    have a3 := Try.isAgg80
                    have z3 := Try.sizeOf80
                    exact OpOK.val (u := .slice (some ⟨g, off, none⟩) P.length cap) (by rfl) (by first | (go_simp; done) | (go_simp; with_reducible rfl) | (go_simp; rfl)) (fun W' _ => rfl)
                  try simp only [Act.put, List.setIfInBounds_toArray, List.set_cons_zero, List.set_cons_succ]
                  refine RelO.next (k' := 5) rfl (fun W gW hF => ?_) ?_
                  focus
                    obtain ⟨h1, _⟩ := hF
                    have e1 : val 1 = .bool false := h1 _ (Frm.refl _ W)
                    try simp only [e1]
                    try simp only [tupAt]
                    refine OpOK.val (u := .int .i64 (j : Int)) (by rfl) ?_ (fun W' _ => rfl)
                    try simp only [e1]
                    try simp only [tupAt]
                    first | (go_simp; done) | (go_simp; with_reducible rfl) | (go_simp; rfl)
                  try simp only [Act.put, List.setIfInBounds_toArray, List.set_cons_zero, List.set_cons_succ]
                  refine RelO.next (k' := 6) rfl (fun W gW hF => ?_) ?_
                  focus
                    obtain ⟨h1, h3, h4, _⟩ := hF
                    have e1 : val 1 = .bool false := h1 _ (Frm.refl _ W)
                    have e3 : val 3 = .slice (some ⟨g, off, none⟩) P.length cap := h3 _ (Frm.refl _ W)
                    have e4 : val 4 = .int .i64 (j : Int) := h4 _ (Frm.refl _ W)
                    try simp only [e4]
                    try simp only [e3]
                    try simp only [e1]
                    try simp only [tupAt]
                    refine OpOK.val (u := .pointer (some ⟨g, off + j * 5, none⟩)) (by rfl) ?_ (fun W' _ => rfl)
                    try simp only [e4]
                    try simp only [e3]
                    try simp only [e1]
                    try simp only [tupAt]
                    first | (go_simp; done) | (go_simp; with_reducible rfl) | (go_simp; rfl)
                  try simp only [Act.put, List.setIfInBounds_toArray, List.set_cons_zero, List.set_cons_succ]
                  refine RelO.next (k' := 7) rfl (fun W gW hF => ?_) ?_
                  focus
                    obtain ⟨h1, h5, _⟩ := hF
                    have e1 : val 1 = .bool false := h1 _ (Frm.refl _ W)
                    have e5 : val 5 = .pointer (some ⟨g, off + j * 5, none⟩) := h5 _ (Frm.refl _ W)
                    try simp only [e5]
                    try simp only [e1]
                    try simp only [tupAt]
                    refine OpOK.val (u := .pointer (some ⟨g, off + j * 5 + 4, none⟩)) (by rfl) ?_ (fun W' _ => rfl)
                    try simp only [e5]
                    try simp only [e1]
                    try simp only [tupAt]
                    first | (go_simp; done) | (go_simp; with_reducible rfl) | (go_simp; rfl)
                  try simp only [Act.put, List.setIfInBounds_toArray, List.set_cons_zero, List.set_cons_succ]
                  refine RelO.next (k' := 8) rfl (fun W gW hF => ?_) ?_
                  focus
                    obtain ⟨h1, h6, _⟩ := hF
                    have e1 : val 1 = .bool false := h1 _ (Frm.refl _ W)
                    have e6 : val 6 = .pointer (some ⟨g, off + j * 5 + 4, none⟩) := h6 _ (Frm.refl _ W)
                    try simp only [e6]
                    try simp only [e1]
                    try simp only [tupAt]
                    have c4 := HY4.out W (D.trans gW)
                    obtain ⟨ya, yc, hy2⟩ := HYS.out
                    have a3 := Try.isAgg52
                    have z3 := Try.sizeOf52
                    exact OpOK.val (u := y.2) (by rfl) (by first | (go_simp; done) | (go_simp; with_reducible rfl) | (go_simp; rfl)) (fun W' _ => rfl)
                  try simp only [Act.put, List.setIfInBounds_toArray, List.set_cons_zero, List.set_cons_succ]
                  refine RelO.next (k' := 9) rfl (fun W gW hF => ?_) ?_
                  focus
                    obtain ⟨h1, _⟩ := hF
                    have e1 : val 1 = .bool false := h1 _ (Frm.refl _ W)
                    try simp only [e1]
                    try simp only [tupAt]
                    exact OpOK.load (by rfl) _ rfl (by rfl) (load_rdotB (HBD.out W (D.trans gW))) (fun W' _ => rfl)
                  try simp only [Act.put, List.setIfInBounds_toArray, List.set_cons_zero, List.set_cons_succ]
                  refine RelO.next (k' := 10) rfl (fun W gW hF => ?_) ?_
                  focus
                    obtain ⟨h1, h7, h8, _⟩ := hF
                    have e1 : val 1 = .bool false := h1 _ (Frm.refl _ W)
                    have e7 : val 7 = y.2 := h7 _ (Frm.refl _ W)
                    have e8 : val 8 = .agg (dv x.1.x.r x.1.x.n) := h8 _ (Frm.refl _ W)
                    try simp only [e8]
                    try simp only [e7]
                    try simp only [e1]
                    try simp only [tupAt]
                    refine OpOK.call (by rfl) ?_ ((rin_sib y.2 y.1.o x.1.x W (HYO.out W (D.trans gW))).mono ?_)
                    · first | (go_simp; done) | (go_simp; with_reducible rfl) | (go_simp; rfl)
                    · rintro e W1 ⟨he, g1⟩
                      rw [HD.out] at he
                      subst he
                      exact ⟨_, rfl, g1, fun W2 _ => rfl⟩
                  try simp only [Act.put, List.setIfInBounds_toArray, List.set_cons_zero, List.set_cons_succ]
                  refine RelO.next (k' := 11) rfl (fun W gW hF => ?_) ?_
                  focus
                    obtain ⟨h1, h9, _⟩ := hF
                    have e1 : val 1 = .bool false := h1 _ (Frm.refl _ W)
                    have e9 : val 9 = .bool true := h9 _ (Frm.refl _ W)
                    try simp only [e9]
                    try simp only [e1]
                    try simp only [tupAt]
                    refine OpOK.val (u := .bool true) (by rfl) ?_ (fun W' _ => rfl)
                    try simp only [e9]
                    try simp only [e1]
                    try simp only [tupAt]
                    first | (go_simp; done) | (go_simp; with_reducible rfl) | (go_simp; rfl)
                  try simp only [Act.put, List.setIfInBounds_toArray, List.set_cons_zero, List.set_cons_succ]
                  refine RelO.next (k' := 12) rfl (fun W gW hF => ?_) ?_
                  focus
                    obtain ⟨h10, _⟩ := hF
                    have e10 : val 10 = .bool true := h10 _ (Frm.refl _ W)
                    try simp only [e10]
                    try simp only [tupAt]
                    refine OpOK.val (u := .bool true) (by rfl) ?_ (fun W' _ => rfl)
                    try simp only [e10]
                    try simp only [tupAt]
                    first | (go_simp; done) | (go_simp; with_reducible rfl) | (go_simp; rfl)
                  try simp only [Act.put, List.setIfInBounds_toArray, List.set_cons_zero, List.set_cons_succ]
                  exact RelO.nil
                intro val w7 gW hF
                obtain ⟨h0, h1, h2, h3, h4, h5, h6, h7, h8, h9, h10, h11, hT⟩ := hF
                have e0 : val 0 = .bool false := h0 _ (Frm.refl _ w7)
                have e1 : val 1 = .bool false := h1 _ (Frm.refl _ w7)
                have e2 : val 2 = .pointer (some ⟨A, 0, none⟩) := h2 _ (Frm.refl _ w7)
                have e3 : val 3 = .slice (some ⟨g, off, none⟩) P.length cap := h3 _ (Frm.refl _ w7)
                have e4 : val 4 = .int .i64 (j : Int) := h4 _ (Frm.refl _ w7)
                have e5 : val 5 = .pointer (some ⟨g, off + j * 5, none⟩) := h5 _ (Frm.refl _ w7)
                have e6 : val 6 = .pointer (some ⟨g, off + j * 5 + 4, none⟩) := h6 _ (Frm.refl _ w7)
                have e7 : val 7 = y.2 := h7 _ (Frm.refl _ w7)
                have e8 : val 8 = .agg (dv x.1.x.r x.1.x.n) := h8 _ (Frm.refl _ w7)
                have e9 : val 9 = .bool true := h9 _ (Frm.refl _ w7)
                have e10 : val 10 = .bool true := h10 _ (Frm.refl _ w7)
                have e11 : val 11 = .bool true := h11 _ (Frm.refl _ w7)
                clear hT h0 h1 h2 h3 h4 h5 h6 h7 h8 h9 h10 h11
                simp only [aO, Act.put, List.setIfInBounds_toArray, List.set_cons_zero, List.set_cons_succ, Nat.reduceAdd]
                try simp only [e11]
                try simp only [e10]
                try simp only [e9]
                try simp only [e8]
                try simp only [e7]
                try simp only [e6]
                try simp only [e5]
                try simp only [e4]
                try simp only [e3]
                try simp only [e2]
                try simp only [e1]
                try simp only [e0]
                try simp only [tupAt]
                refine wpTail.doneN ?_
                refine hK _ _ ?_
                have HG7 := Lib.hid (gj.trans (D.trans gW))
                clear gW D hK gj e0 e1 e2 e3 e4 e5 e6 e7 e8 e9 e10 e11
                go_wp2_with fail
                go_roundw
                case rel => exact ⟨j + 1, by omega, by go_num, by rw [HNX.out], HG7.out⟩
                case measure => simp [intOf]; omega
              | false =>
                have HD := Lib.hid hdd
                rw [hdd] at HNT
                have HNX := HNT
                clear hdd
                go_upto_region 12 with fail
                rename_i hK
                have D : Frm (fun _ => False) wr wr.drew := (Frm.refl _ _).drew
                clear c9
                refine wp_region_late 12 0 [] [[], [0], [1], [1, 2], [1], [1, 3, 4], [1, 5], [1, 6], [1], [1, 7, 8], [1, 9], [10]] kr12fM (kr12fR A g off j cap P x y) (by kernel_rfl) rfl rfl rfl (by kernel_rfl) (by kernel_rfl) (by kernel_rfl) (by kernel_rfl) rfl (by kernel_rfl) (by kernel_rfl) (by kernel_rfl) (by kernel_rfl) (fun val => ?_) ?_
                · try dsimp only
                  refine RelO.next (k' := 1) rfl (fun W gW hF => ?_) ?_
                  focus
                    refine OpOK.val (u := .bool false) (by rfl) ?_ (fun W' _ => rfl)
                    try simp only [tupAt]
                    first | (go_simp; done) | (go_simp; with_reducible rfl) | (go_simp; rfl)
                  try simp only [Act.put, List.setIfInBounds_toArray, List.set_cons_zero, List.set_cons_succ]
                  refine RelO.next (k' := 2) rfl (fun W gW hF => ?_) ?_
                  focus
                    obtain ⟨h0, _⟩ := hF
                    have e0 : val 0 = .bool false := h0 _ (Frm.refl _ W)
                    try simp only [e0]
                    try simp only [tupAt]
                    refine OpOK.val (u := .bool false) (by rfl) ?_ (fun W' _ => rfl)
                    try simp only [e0]
                    try simp only [tupAt]
                    first | (go_simp; done) | (go_simp; with_reducible rfl) | (go_simp; rfl)
                  try simp only [Act.put, List.setIfInBounds_toArray, List.set_cons_zero, List.set_cons_succ]
                  refine RelO.next (k' := 3) rfl (fun W gW hF => ?_) ?_
                  focus
                    obtain ⟨h1, _⟩ := hF
                    have e1 : val 1 = .bool false := h1 _ (Frm.refl _ W)
                    try simp only [e1]
                    try simp only [tupAt]
                    refine OpOK.val (u := .pointer (some ⟨A, 0, none⟩)) (by rfl) ?_ (fun W' _ => rfl)
                    try simp only [e1]
                    try simp only [tupAt]
                    first | (go_simp; done) | (go_simp; with_reducible rfl) | (go_simp; rfl)
                  try simp only [Act.put, List.setIfInBounds_toArray, List.set_cons_zero, List.set_cons_succ]
                  refine RelO.next (k' := 4) rfl (fun W gW hF => ?_) ?_
                  focus
                    obtain ⟨h1, h2, _⟩ := hF
                    have e1 : val 1 = .bool false := h1 _ (Frm.refl _ W)
                    have e2 : val 2 = .pointer (some ⟨A, 0, none⟩) := h2 _ (Frm.refl _ W)
                    try simp only [e2]
                    try simp only [e1]
                    try simp only [tupAt]
                    have c8 := (HB0.out W (D.trans gW)).cell 0 rfl
                    have a3 := Try.isAgg80
                    have z3 := Try.sizeOf80
                    exact OpOK.val (u := .slice (some ⟨g, off, none⟩) P.length cap) (by rfl) (by first | (go_simp; done) | (go_simp; with_reducible rfl) | (go_simp; rfl)) (fun W' _ => rfl)
                  try simp only [Act.put, List.setIfInBounds_toArray, List.set_cons_zero, List.set_cons_succ]
                  refine RelO.next (k' := 5) rfl (fun W gW hF => ?_) ?_
                  focus
                    obtain ⟨h1, _⟩ := hF
                    have e1 : val 1 = .bool false := h1 _ (Frm.refl _ W)
                    try simp only [e1]
                    try simp only [tupAt]
                    refine OpOK.val (u := .int .i64 (j : Int)) (by rfl) ?_ (fun W' _ => rfl)
                    try simp only [e1]
                    try simp only [tupAt]
                    first | (go_simp; done) | (go_simp; with_reducible rfl) | (go_simp; rfl)
                  try simp only [Act.put, List.setIfInBounds_toArray, List.set_cons_zero, List.set_cons_succ]
                  refine RelO.next (k' := 6) rfl (fun W gW hF => ?_) ?_
                  focus
                    obtain ⟨h1, h3, h4, _⟩ := hF
                    have e1 : val 1 = .bool false := h1 _ (Frm.refl _ W)
                    have e3 : val 3 = .slice (some ⟨g, off, none⟩) P.length cap := h3 _ (Frm.refl _ W)
                    have e4 : val 4 = .int .i64 (j : Int) := h4 _ (Frm.refl _ W)
                    try simp only [e4]
                    try simp only [e3]
                    try simp only [e1]
                    try simp only [tupAt]
                    refine OpOK.val (u := .pointer (some ⟨g, off + j * 5, none⟩)) (by rfl) ?_ (fun W' _ => rfl)
                    try simp only [e4]
                    try simp only [e3]
                    try simp only [e1]
                    try simp only [tupAt]
                    first | (go_simp; done) | (go_simp; with_reducible rfl) | (go_simp; rfl)
                  try simp only [Act.put, List.setIfInBounds_toArray, List.set_cons_zero, List.set_cons_succ]
                  refine RelO.next (k' := 7) rfl (fun W gW hF => ?_) ?_
                  focus
                    obtain ⟨h1, h5, _⟩ := hF
                    have e1 : val 1 = .bool false := h1 _ (Frm.refl _ W)
                    have e5 : val 5 = .pointer (some ⟨g, off + j * 5, none⟩) := h5 _ (Frm.refl _ W)
                    try simp only [e5]
                    try simp only [e1]
                    try simp only [tupAt]
                    refine OpOK.val (u := .pointer (some ⟨g, off + j * 5 + 4, none⟩)) (by rfl) ?_ (fun W' _ => rfl)
                    try simp only [e5]
                    try simp only [e1]
                    try simp only [tupAt]
                    first | (go_simp; done) | (go_simp; with_reducible rfl) | (go_simp; rfl)
                  try simp only [Act.put, List.setIfInBounds_toArray, List.set_cons_zero, List.set_cons_succ]
                  refine RelO.next (k' := 8) rfl (fun W gW hF => ?_) ?_
                  focus
                    obtain ⟨h1, h6, _⟩ := hF
                    have e1 : val 1 = .bool false := h1 _ (Frm.refl _ W)
                    have e6 : val 6 = .pointer (some ⟨g, off + j * 5 + 4, none⟩) := h6 _ (Frm.refl _ W)
                    try simp only [e6]
                    try simp only [e1]
                    try simp only [tupAt]
                    have c4 := HY4.out W (D.trans gW)
                    obtain ⟨ya, yc, hy2⟩ := HYS.out
                    have a3 := Try.isAgg52
                    have z3 := Try.sizeOf52
                    exact OpOK.val (u := y.2) (by rfl) (by first | (go_simp; done) | (go_simp; with_reducible rfl) | (go_simp; rfl)) (fun W' _ => rfl)
                  try simp only [Act.put, List.setIfInBounds_toArray, List.set_cons_zero, List.set_cons_succ]
                  refine RelO.next (k' := 9) rfl (fun W gW hF => ?_) ?_
                  focus
                    obtain ⟨h1, _⟩ := hF
                    have e1 : val 1 = .bool false := h1 _ (Frm.refl _ W)
                    try simp only [e1]
                    try simp only [tupAt]
                    exact OpOK.load (by rfl) _ rfl (by rfl) (load_rdotB (HBD.out W (D.trans gW))) (fun W' _ => rfl)
                  try simp only [Act.put, List.setIfInBounds_toArray, List.set_cons_zero, List.set_cons_succ]
                  refine RelO.next (k' := 10) rfl (fun W gW hF => ?_) ?_
                  focus
                    obtain ⟨h1, h7, h8, _⟩ := hF
                    have e1 : val 1 = .bool false := h1 _ (Frm.refl _ W)
                    have e7 : val 7 = y.2 := h7 _ (Frm.refl _ W)
                    have e8 : val 8 = .agg (dv x.1.x.r x.1.x.n) := h8 _ (Frm.refl _ W)
                    try simp only [e8]
                    try simp only [e7]
                    try simp only [e1]
                    try simp only [tupAt]
                    refine OpOK.call (by rfl) ?_ ((rin_sib y.2 y.1.o x.1.x W (HYO.out W (D.trans gW))).mono ?_)
                    · first | (go_simp; done) | (go_simp; with_reducible rfl) | (go_simp; rfl)
                    · rintro e W1 ⟨he, g1⟩
                      rw [HD.out] at he
                      subst he
                      exact ⟨_, rfl, g1, fun W2 _ => rfl⟩
                  try simp only [Act.put, List.setIfInBounds_toArray, List.set_cons_zero, List.set_cons_succ]
                  refine RelO.next (k' := 11) rfl (fun W gW hF => ?_) ?_
                  focus
                    obtain ⟨h1, h9, _⟩ := hF
                    have e1 : val 1 = .bool false := h1 _ (Frm.refl _ W)
                    have e9 : val 9 = .bool false := h9 _ (Frm.refl _ W)
                    try simp only [e9]
                    try simp only [e1]
                    try simp only [tupAt]
                    refine OpOK.val (u := .bool false) (by rfl) ?_ (fun W' _ => rfl)
                    try simp only [e9]
                    try simp only [e1]
                    try simp only [tupAt]
                    first | (go_simp; done) | (go_simp; with_reducible rfl) | (go_simp; rfl)
                  try simp only [Act.put, List.setIfInBounds_toArray, List.set_cons_zero, List.set_cons_succ]
                  refine RelO.next (k' := 12) rfl (fun W gW hF => ?_) ?_
                  focus
                    obtain ⟨h10, _⟩ := hF
                    have e10 : val 10 = .bool false := h10 _ (Frm.refl _ W)
                    try simp only [e10]
                    try simp only [tupAt]
                    refine OpOK.val (u := .bool false) (by rfl) ?_ (fun W' _ => rfl)
                    try simp only [e10]
                    try simp only [tupAt]
                    first | (go_simp; done) | (go_simp; with_reducible rfl) | (go_simp; rfl)
                  try simp only [Act.put, List.setIfInBounds_toArray, List.set_cons_zero, List.set_cons_succ]
                  exact RelO.nil
                intro val w7 gW hF
                obtain ⟨h0, h1, h2, h3, h4, h5, h6, h7, h8, h9, h10, h11, hT⟩ := hF
                have e0 : val 0 = .bool false := h0 _ (Frm.refl _ w7)
                have e1 : val 1 = .bool false := h1 _ (Frm.refl _ w7)
                have e2 : val 2 = .pointer (some ⟨A, 0, none⟩) := h2 _ (Frm.refl _ w7)
                have e3 : val 3 = .slice (some ⟨g, off, none⟩) P.length cap := h3 _ (Frm.refl _ w7)
                have e4 : val 4 = .int .i64 (j : Int) := h4 _ (Frm.refl _ w7)
                have e5 : val 5 = .pointer (some ⟨g, off + j * 5, none⟩) := h5 _ (Frm.refl _ w7)
                have e6 : val 6 = .pointer (some ⟨g, off + j * 5 + 4, none⟩) := h6 _ (Frm.refl _ w7)
                have e7 : val 7 = y.2 := h7 _ (Frm.refl _ w7)
                have e8 : val 8 = .agg (dv x.1.x.r x.1.x.n) := h8 _ (Frm.refl _ w7)
                have e9 : val 9 = .bool false := h9 _ (Frm.refl _ w7)
                have e10 : val 10 = .bool false := h10 _ (Frm.refl _ w7)
                have e11 : val 11 = .bool false := h11 _ (Frm.refl _ w7)
                clear hT h0 h1 h2 h3 h4 h5 h6 h7 h8 h9 h10 h11
                simp only [aO, Act.put, List.setIfInBounds_toArray, List.set_cons_zero, List.set_cons_succ, Nat.reduceAdd]
                try simp only [e11]
                try simp only [e10]
                try simp only [e9]
                try simp only [e8]
                try simp only [e7]
                try simp only [e6]
                try simp only [e5]
                try simp only [e4]
                try simp only [e3]
                try simp only [e2]
                try simp only [e1]
                try simp only [e0]
                try simp only [tupAt]
                refine wpTail.doneN ?_
                refine hK _ _ ?_
                have HG7 := Lib.hid (gj.trans (D.trans gW))
                clear gW D hK gj e0 e1 e2 e3 e4 e5 e6 e7 e8 e9 e10 e11
                go_wp2_with fail
                go_roundw
                case rel => exact ⟨j + 1, by omega, by go_num, by rw [HNX.out], HG7.out⟩
                case measure => simp [intOf]; omega
          · obtain rfl : j = P.length := by omega
            have HSE := Lib.hid (seenK_eq QE x.1)
            rw [show QE.take P.length = QE by rw [← hQl, List.take_length]]
            have hx2 := (HX.out wr gj).1
            have HX3 : Hid (∀ W, Frm (fun _ => False) wr W → W.cell? ⟨g, off + k * 5 + 3, none⟩ = some (.string (bs x.1.x.s))) := Lib.hid fun W gg => (HX.out W (gj.trans gg)).2
            have HF := Lib.hid (HF5.out.keep gj)
            replace HBD := Hid.grow HBD gj
            cases hnm : nmK QE x.1.x.d with
            | true =>
              rw [hnm, Bool.not_true, Bool.and_false] at HSE
              have HNX := Lib.hid (HST.out.trans (by rw [HSE.out]))
              clear hnm
              cases his : x.1.is
              all_goals
                rw [his] at hx2
                go_wp2_with fail
                go_roundw
                case rel => exact ⟨k + 1, u, by omega, by go_num, by rw [HCX.out, HNX.out]; exact HF.out⟩
                case measure => simp [intOf]; omega
            | false =>
              rw [hnm, Bool.not_false, Bool.and_true] at HSE
              clear hnm
              cases his : x.1.is with
              | false =>
                rw [his] at hx2 HSE
                have HNX := Lib.hid (HST.out.trans (by rw [HSE.out]))
                go_wp2_with fail
                go_roundw
                case rel => exact ⟨k + 1, u, by omega, by go_num, by rw [HCX.out, HNX.out]; exact HF.out⟩
                case measure => simp [intOf]; omega
              | true =>
                rw [his] at hx2 HSE
                have HNX : Hid (sibK QE [] (QE.take (k + 1)) = putL lf x.1.x) := Lib.hid (HST.out.trans (if_pos HSE.out))
                go_upto_region 14 with fail
                have D : Frm (fun _ => False) wr wr.drew := (Frm.refl _ _).drew
                clear hx2 c9 his
                refine wp_region_late 11 2 [] [[], [0], [], [], [3], [], [4, 5], [6], [7], [2, 8], [1, 9]] kr14M (kr14R A g off k cap B u lf P x) (by kernel_rfl) rfl rfl rfl (by kernel_rfl) (by kernel_rfl) (by kernel_rfl) (by kernel_rfl) rfl (by kernel_rfl) (by kernel_rfl) (by kernel_rfl) (by kernel_rfl) (fun val => ?_) ?_
                · try simp only [Act.put, List.setIfInBounds_toArray, List.set_cons_zero, List.set_cons_succ]
                  refine RelO.next (k' := 1) rfl (fun W gW hF => ?_) ?_
                  focus
                    refine OpOK.val (u := .pointer (some ⟨B, 8, none⟩)) (by rfl) ?_ (fun W' _ => rfl)
                    try simp only [tupAt]
                    first | (go_simp; done) | (go_simp; with_reducible rfl) | (go_simp; rfl)
                  try simp only [Act.put, List.setIfInBounds_toArray, List.set_cons_zero, List.set_cons_succ]
                  refine RelO.next (k' := 2) rfl (fun W gW hF => ?_) ?_
                  focus
                    obtain ⟨h0, _⟩ := hF
                    have e0 : val 0 = .pointer (some ⟨B, 8, none⟩) := h0 _ (Frm.refl _ W)
                    try simp only [e0]
                    try simp only [tupAt]
                    have c8 := (HF.out.keep (D.trans gW)).blk.cell 8 rfl
                    have a3 := Try.isAgg45
                    have z3 := Try.sizeOf45
                    exact OpOK.val (u := u) (by rfl) (by first | (go_simp; done) | (go_simp; with_reducible rfl) | (go_simp; rfl)) (fun W' _ => rfl)
                  try simp only [Act.put, List.setIfInBounds_toArray, List.set_cons_zero, List.set_cons_succ]
                  refine RelO.next (k' := 3) rfl (fun W gW hF => ?_) ?_
                  focus
                    exact OpOK.load (by rfl) _ rfl (by rfl) (load_rdotB (HBD.out W (D.trans gW))) (fun W' _ => rfl)
                  try simp only [Act.put, List.setIfInBounds_toArray, List.set_cons_zero, List.set_cons_succ]
                  refine RelO.next (k' := 4) rfl (fun W gW hF => ?_) ?_
                  focus
                    refine OpOK.val (u := .pointer (some ⟨A, 0, none⟩)) (by rfl) ?_ (fun W' _ => rfl)
                    try simp only [tupAt]
                    first | (go_simp; done) | (go_simp; with_reducible rfl) | (go_simp; rfl)
                  try simp only [Act.put, List.setIfInBounds_toArray, List.set_cons_zero, List.set_cons_succ]
                  refine RelO.next (k' := 5) rfl (fun W gW hF => ?_) ?_
                  focus
                    obtain ⟨h3, _⟩ := hF
                    have e3 : val 3 = .pointer (some ⟨A, 0, none⟩) := h3 _ (Frm.refl _ W)
                    try simp only [e3]
                    try simp only [tupAt]
                    have c8 := (HB0.out W (D.trans gW)).cell 0 rfl
                    have a3 := Try.isAgg80
                    have z3 := Try.sizeOf80
                    exact OpOK.val (u := .slice (some ⟨g, off, none⟩) P.length cap) (by rfl) (by first | (go_simp; done) | (go_simp; with_reducible rfl) | (go_simp; rfl)) (fun W' _ => rfl)
                  try simp only [Act.put, List.setIfInBounds_toArray, List.set_cons_zero, List.set_cons_succ]
                  refine RelO.next (k' := 6) rfl (fun W gW hF => ?_) ?_
                  focus
                    refine OpOK.val (u := .int .i64 (k : Int)) (by rfl) ?_ (fun W' _ => rfl)
                    try simp only [tupAt]
                    first | (go_simp; done) | (go_simp; with_reducible rfl) | (go_simp; rfl)
                  try simp only [Act.put, List.setIfInBounds_toArray, List.set_cons_zero, List.set_cons_succ]
                  refine RelO.next (k' := 7) rfl (fun W gW hF => ?_) ?_
                  focus
                    obtain ⟨h4, h5, _⟩ := hF
                    have e4 : val 4 = .slice (some ⟨g, off, none⟩) P.length cap := h4 _ (Frm.refl _ W)
                    have e5 : val 5 = .int .i64 (k : Int) := h5 _ (Frm.refl _ W)
                    try simp only [e5]
                    try simp only [e4]
                    try simp only [tupAt]
                    refine OpOK.val (u := .pointer (some ⟨g, off + k * 5, none⟩)) (by rfl) ?_ (fun W' _ => rfl)
                    try simp only [e5]
                    try simp only [e4]
                    try simp only [tupAt]
                    first | (go_simp; done) | (go_simp; with_reducible rfl) | (go_simp; rfl)
                  try simp only [Act.put, List.setIfInBounds_toArray, List.set_cons_zero, List.set_cons_succ]
                  refine RelO.next (k' := 8) rfl (fun W gW hF => ?_) ?_
                  focus
                    obtain ⟨h6, _⟩ := hF
                    have e6 : val 6 = .pointer (some ⟨g, off + k * 5, none⟩) := h6 _ (Frm.refl _ W)
                    try simp only [e6]
                    try simp only [tupAt]
                    refine OpOK.val (u := .pointer (some ⟨g, off + k * 5 + 3, none⟩)) (by rfl) ?_ (fun W' _ => rfl)
                    try simp only [e6]
                    try simp only [tupAt]
                    first | (go_simp; done) | (go_simp; with_reducible rfl) | (go_simp; rfl)
                  try simp only [Act.put, List.setIfInBounds_toArray, List.set_cons_zero, List.set_cons_succ]
                  refine RelO.next (k' := 9) rfl (fun W gW hF => ?_) ?_
                  focus
                    obtain ⟨h7, _⟩ := hF
                    have e7 : val 7 = .pointer (some ⟨g, off + k * 5 + 3, none⟩) := h7 _ (Frm.refl _ W)
                    try simp only [e7]
                    try simp only [tupAt]
                    have c3 := HX3.out W (D.trans gW)
                    exact OpOK.val (u := .string (bs x.1.x.s)) (by rfl) (by first | (go_simp; done) | (go_simp; with_reducible rfl) | (go_simp; rfl)) (fun W' _ => rfl)
                  try simp only [Act.put, List.setIfInBounds_toArray, List.set_cons_zero, List.set_cons_succ]
                  refine RelO.next (k' := 10) rfl (fun W gW hF => ?_) ?_
                  focus
                    obtain ⟨h2, h8, _⟩ := hF
                    have e2 : val 2 = .agg (dv x.1.x.r x.1.x.n) := h2 _ (Frm.refl _ W)
                    have e8 : val 8 = .string (bs x.1.x.s) := h8 _ (Frm.refl _ W)
                    try simp only [e8]
                    try simp only [e2]
                    try simp only [tupAt]
                    refine OpOK.val (u := .agg #[.int .u8 x.1.x.r, .int .u32 x.1.x.n, .string (bs x.1.x.s)]) (by rfl) ?_ (fun W' _ => rfl)
                    try simp only [e8]
                    try simp only [e2]
                    try simp only [tupAt]
                    first | (go_simp; done) | (go_simp; with_reducible rfl) | (go_simp; rfl)
                  try simp only [Act.put, List.setIfInBounds_toArray, List.set_cons_zero, List.set_cons_succ]
                  refine RelO.next (k' := 11) rfl (fun W gW hF => ?_) ?_
                  focus
                    obtain ⟨h1, h9, _⟩ := hF
                    have e1 : val 1 = u := h1 _ (Frm.refl _ W)
                    have e9 : val 9 = .agg #[.int .u8 x.1.x.r, .int .u32 x.1.x.n, .string (bs x.1.x.s)] := h9 _ (Frm.refl _ W)
                    try simp only [e9]
                    try simp only [e1]
                    try simp only [tupAt]
                    have hBW := (HF.out.keep (D.trans gW)).blk.lt
                    refine OpOK.call (by rfl) ?_ ((rput_any u lf x.1.x W (HF.out.keep (D.trans gW)).own.sl (by omega)).mono ?_)
                    · first | (go_simp; done) | (go_simp; with_reducible rfl) | (go_simp; rfl)
                    · rintro e W1 ⟨v', rfl, o', g', n'⟩
                      exact ⟨_, rfl, g', fun W2 g2 => ⟨v', rfl, o'.keep g2 (fun _ _ h => h), fun g e => Nat.lt_of_lt_of_le hBW (n' g e)⟩⟩
                  try simp only [Act.put, List.setIfInBounds_toArray, List.set_cons_zero, List.set_cons_succ]
                  exact RelO.nil
                intro val w8 gW hF
                obtain ⟨h0, h1, h2, h3, h4, h5, h6, h7, h8, h9, h10, hT⟩ := hF
                have e0 : val 0 = .pointer (some ⟨B, 8, none⟩) := h0 _ (Frm.refl _ w8)
                have e1 : val 1 = u := h1 _ (Frm.refl _ w8)
                have e2 : val 2 = .agg (dv x.1.x.r x.1.x.n) := h2 _ (Frm.refl _ w8)
                have e3 : val 3 = .pointer (some ⟨A, 0, none⟩) := h3 _ (Frm.refl _ w8)
                have e4 : val 4 = .slice (some ⟨g, off, none⟩) P.length cap := h4 _ (Frm.refl _ w8)
                have e5 : val 5 = .int .i64 (k : Int) := h5 _ (Frm.refl _ w8)
                have e6 : val 6 = .pointer (some ⟨g, off + k * 5, none⟩) := h6 _ (Frm.refl _ w8)
                have e7 : val 7 = .pointer (some ⟨g, off + k * 5 + 3, none⟩) := h7 _ (Frm.refl _ w8)
                have e8 : val 8 = .string (bs x.1.x.s) := h8 _ (Frm.refl _ w8)
                have e9 : val 9 = .agg #[.int .u8 x.1.x.r, .int .u32 x.1.x.n, .string (bs x.1.x.s)] := h9 _ (Frm.refl _ w8)
                have q10 : ∃ z, (val 10) = z ∧ OwnL w8 z (putL lf x.1.x) ∧ ∀ g, z.ownBlock = some g → B < g := h10 _ (Frm.refl _ w8)
                obtain ⟨xp, e10, op, np⟩ := q10
                clear hT h0 h1 h2 h3 h4 h5 h6 h7 h8 h9 h10
                simp only [aO, Act.put, List.setIfInBounds_toArray, List.set_cons_zero, List.set_cons_succ, Nat.reduceAdd]
                try simp only [e10]
                try simp only [e9]
                try simp only [e8]
                try simp only [e7]
                try simp only [e6]
                try simp only [e5]
                try simp only [e4]
                try simp only [e3]
                try simp only [e2]
                try simp only [e1]
                try simp only [e0]
                try simp only [tupAt]
                obtain ⟨ap, cp, rfl, _, _⟩ := Row.slice op
                refine tail_setR (w0 := w2) B _ lf (putL lf x.1.x) u _ _ _ rfl rfl rfl rfl rfl rfl rfl (HF.out.keep (D.trans gW)) op np (fun W' => ?_) rfl rfl ?_
                · first | (go_simp; done) | (go_simp; with_reducible rfl) | (go_simp; rfl)
                intro w9 F2
                try simp only [Act.put, List.setIfInBounds_toArray, List.set_cons_zero, List.set_cons_succ]
                refine hKb _ _ ?_
                rw [← HNX.out, ← HCX.out] at F2
                clear gW D op np HF HX HX3 e0 e1 e2 e3 e4 e5 e6 e7 e8 e9 e10
                go_wp2_with fail
                go_roundw
                case rel => exact ⟨k + 1, _, by omega, by go_num, F2⟩
                case measure => simp [intOf]; omega
      · have hgd : x.1.x.n ≤ cf x.1.x.r := by omega
        have HCX0 := Lib.hid (HCT.out.trans (if_neg hgt))
        clear hgt
        go_quiet (fail)
        have HF5 : Hid (FillT 47 w2 B cf lf u (w4.drewN nq)) := Lib.hid (HF.out.keep ((Frm.refl (fun _ => False) w4).drewN nq))
        replace HBD := Hid.grow HBD ((Frm.refl (fun _ => False) w4).drewN nq)
        replace HX := Hid.grow HX ((Frm.refl (fun _ => False) w4).drewN nq)
        generalize w4.drewN nq = w5 at *
        have d2 := (HBD.out w5 (Frm.refl _ _)).cell 0 rfl
        have d3 := (HBD.out w5 (Frm.refl _ _)).cell 1 rfl
        clear HF HCT
        go_upto_region 10 with fail
        clear d0 d1 d2 d3 cB hgd
        obtain ⟨cn, hcn⟩ : ∃ cn, cf = cn := ⟨_, rfl⟩
        have HCX := Lib.hid (HCX0.out.trans hcn)
        subst hcn
        go_loopw [6, 7] (fun nm i wr => ∃ j : Nat, j ≤ P.length ∧ i = .int .i64 j ∧ nm = .bool (nmK (QE.take j) x.1.x.d) ∧ Frm (fun _ => False) w5 wr) (fun _ i _ => P.length - (intOf i).toNat)
        case atStart => exact ⟨0, Nat.zero_le _, rfl, by rw [List.take_zero, nmK_nil], Frm.refl _ _⟩
        case round =>
          obtain ⟨j, hj, rfl, rfl, gj⟩ := hrel
          have HBO := HB0
          have HB0 : Hid (∀ W, Frm (fun _ => False) wr W → Blk W A 82 #[.slice (some ⟨g, off, none⟩) P.length cap]) := Lib.hid fun W g => HBO.out W ((HF5.out.frm.trans gj).trans g)
          have c9 := (HB0.out wr (Frm.refl _ _)).cell 0 rfl
          by_cases hjl : j < P.length
          · obtain ⟨y, hy⟩ : ∃ y, P[j] = y := ⟨_, rfl⟩
            have HQY : Hid (QE[j]'(by rw [hQl]; exact hjl) = y.1) := Lib.hid ((HQk.out j hjl).trans (by rw [hy]))
            have HNT := Lib.hid (nmK_take QE x.1.x.d j (by rw [hQl]; exact hjl))
            rw [HQY.out] at HNT
            have hji : (j : Int) < (P.length : Int) := by omega
            have hj0 : (0 : Int) ≤ (j : Int) := by omega
            have HY4 : Hid (∀ W, Frm (fun _ => False) wr W → W.cell? ⟨g, off + j * 5 + 4, none⟩ = some y.2) := Lib.hid fun W hW => by
              obtain ⟨g', off', e, _, _, _, _, y4⟩ := (HK.out W ((HF5.out.frm.trans gj).trans hW)).cells j hjl
              cases e
              rw [hy] at y4
              exact y4
            have HYO : Hid (∀ W, Frm (fun _ => False) wr W → DL W y.2 y.1.o) := Lib.hid fun W hW => (HK.out W ((HF5.out.frm.trans gj).trans hW)).ov y (by rw [← hy]; exact List.getElem_mem hjl)
            have HYS : Hid (∃ ya yc, y.2 = .slice ya y.1.o.length yc) := Lib.hid (by obtain ⟨ya, yc, e, _, _⟩ := (HYO.out wr (Frm.refl _ _)).slice; exact ⟨ya, yc, e⟩)
            replace HBD := Hid.grow HBD gj
            clear hy
            cases hnm : nmK (QE.take j) x.1.x.d with
            | true =>
              rw [hnm, Bool.true_or] at HNT
              have HNX := HNT
              clear hnm
              go_upto_region 12 with fail
              rename_i hK
              have D : Frm (fun _ => False) wr wr.drew := (Frm.refl _ _).drew
              clear c9
              refine wp_region_late 12 0 [] [[], [0], [1], [1, 2], [1], [1, 3, 4], [1, 5], [1, 6], [1], [1, 7, 8], [1, 9], [10]] kr12nM (kr12nR ) (by kernel_rfl) rfl rfl rfl (by kernel_rfl) (by kernel_rfl) (by kernel_rfl) (by kernel_rfl) rfl (by kernel_rfl) (by kernel_rfl) (by kernel_rfl) (by kernel_rfl) (fun val => ?_) ?_
              · try dsimp only
                refine RelO.next (k' := 1) rfl (fun W gW hF => ?_) ?_
                focus
                  refine OpOK.val (u := .bool true) (by rfl) ?_ (fun W' _ => rfl)
                  try simp only [tupAt]
                  first | (go_simp; done) | (go_simp; with_reducible rfl) | (go_simp; rfl)
                try simp only [Act.put, List.setIfInBounds_toArray, List.set_cons_zero, List.set_cons_succ]
                refine RelO.next (k' := 2) rfl (fun W gW hF => ?_) ?_
                focus
                  obtain ⟨h0, _⟩ := hF
                  have e0 : val 0 = .bool true := h0 _ (Frm.refl _ W)
                  try simp only [e0]
                  try simp only [tupAt]
                  refine OpOK.val (u := .bool true) (by rfl) ?_ (fun W' _ => rfl)
                  try simp only [e0]
                  try simp only [tupAt]
                  first | (go_simp; done) | (go_simp; with_reducible rfl) | (go_simp; rfl)
                try simp only [Act.put, List.setIfInBounds_toArray, List.set_cons_zero, List.set_cons_succ]
                refine RelO.next (k' := 3) rfl (fun W gW hF => ?_) ?_
                focus
                  obtain ⟨h1, _⟩ := hF
                  have e1 : val 1 = .bool true := h1 _ (Frm.refl _ W)
                  try simp only [e1]
                  try simp only [tupAt]
                  exact OpOK.skip (by rfl) (fun W' _ => rfl)
                try simp only [Act.put, List.setIfInBounds_toArray, List.set_cons_zero, List.set_cons_succ]
                refine RelO.next (k' := 4) rfl (fun W gW hF => ?_) ?_
                focus
                  obtain ⟨h1, h2, _⟩ := hF
                  have e1 : val 1 = .bool true := h1 _ (Frm.refl _ W)
                  have e2 : val 2 = undef := h2 _ (Frm.refl _ W)
                  try simp only [e2]
                  try simp only [e1]
                  try simp only [tupAt]
                  exact OpOK.skip (by rfl) (fun W' _ => rfl)
                try simp only [Act.put, List.setIfInBounds_toArray, List.set_cons_zero, List.set_cons_succ]
                refine RelO.next (k' := 5) rfl (fun W gW hF => ?_) ?_
                focus
                  obtain ⟨h1, _⟩ := hF
                  have e1 : val 1 = .bool true := h1 _ (Frm.refl _ W)
                  try simp only [e1]
                  try simp only [tupAt]
                  exact OpOK.skip (by rfl) (fun W' _ => rfl)
                try simp only [Act.put, List.setIfInBounds_toArray, List.set_cons_zero, List.set_cons_succ]
                refine RelO.next (k' := 6) rfl (fun W gW hF => ?_) ?_
                focus
                  obtain ⟨h1, h3, h4, _⟩ := hF
                  have e1 : val 1 = .bool true := h1 _ (Frm.refl _ W)
                  have e3 : val 3 = undef := h3 _ (Frm.refl _ W)
                  have e4 : val 4 = undef := h4 _ (Frm.refl _ W)
                  try simp only [e4]
                  try simp only [e3]
                  try simp only [e1]
                  try simp only [tupAt]
                  exact OpOK.skip (by rfl) (fun W' _ => rfl)
                try simp only [Act.put, List.setIfInBounds_toArray, List.set_cons_zero, List.set_cons_succ]
                refine RelO.next (k' := 7) rfl (fun W gW hF => ?_) ?_
                focus
                  obtain ⟨h1, h5, _⟩ := hF
                  have e1 : val 1 = .bool true := h1 _ (Frm.refl _ W)
                  have e5 : val 5 = undef := h5 _ (Frm.refl _ W)
                  try simp only [e5]
                  try simp only [e1]
                  try simp only [tupAt]
                  exact OpOK.skip (by rfl) (fun W' _ => rfl)
                try simp only [Act.put, List.setIfInBounds_toArray, List.set_cons_zero, List.set_cons_succ]
                refine RelO.next (k' := 8) rfl (fun W gW hF => ?_) ?_
                focus
                  obtain ⟨h1, h6, _⟩ := hF
                  have e1 : val 1 = .bool true := h1 _ (Frm.refl _ W)
                  have e6 : val 6 = undef := h6 _ (Frm.refl _ W)
                  try simp only [e6]
                  try simp only [e1]
                  try simp only [tupAt]
                  exact OpOK.skip (by rfl) (fun W' _ => rfl)
                try simp only [Act.put, List.setIfInBounds_toArray, List.set_cons_zero, List.set_cons_succ]
                refine RelO.next (k' := 9) rfl (fun W gW hF => ?_) ?_
                focus
                  obtain ⟨h1, _⟩ := hF
                  have e1 : val 1 = .bool true := h1 _ (Frm.refl _ W)
                  try simp only [e1]
                  try simp only [tupAt]
                  exact OpOK.skip (by rfl) (fun W' _ => rfl)
                try simp only [Act.put, List.setIfInBounds_toArray, List.set_cons_zero, List.set_cons_succ]
                refine RelO.next (k' := 10) rfl (fun W gW hF => ?_) ?_
                focus
                  obtain ⟨h1, h7, h8, _⟩ := hF
                  have e1 : val 1 = .bool true := h1 _ (Frm.refl _ W)
                  have e7 : val 7 = undef := h7 _ (Frm.refl _ W)
                  have e8 : val 8 = undef := h8 _ (Frm.refl _ W)
                  try simp only [e8]
                  try simp only [e7]
                  try simp only [e1]
                  try simp only [tupAt]
                  exact OpOK.skip (by rfl) (fun W' _ => rfl)
                try simp only [Act.put, List.setIfInBounds_toArray, List.set_cons_zero, List.set_cons_succ]
                refine RelO.next (k' := 11) rfl (fun W gW hF => ?_) ?_
                focus
                  obtain ⟨h1, h9, _⟩ := hF
                  have e1 : val 1 = .bool true := h1 _ (Frm.refl _ W)
                  have e9 : val 9 = undef := h9 _ (Frm.refl _ W)
                  try simp only [e9]
                  try simp only [e1]
                  try simp only [tupAt]
                  refine OpOK.val (u := .bool true) (by rfl) ?_ (fun W' _ => rfl)
                  try simp only [e9]
                  try simp only [e1]
                  try simp only [tupAt]
                  first | (go_simp; done) | (go_simp; with_reducible rfl) | (go_simp; rfl)
                try simp only [Act.put, List.setIfInBounds_toArray, List.set_cons_zero, List.set_cons_succ]
                refine RelO.next (k' := 12) rfl (fun W gW hF => ?_) ?_
                focus
                  obtain ⟨h10, _⟩ := hF
                  have e10 : val 10 = .bool true := h10 _ (Frm.refl _ W)
                  try simp only [e10]
                  try simp only [tupAt]
                  refine OpOK.val (u := .bool true) (by rfl) ?_ (fun W' _ => rfl)
                  try simp only [e10]
                  try simp only [tupAt]
                  first | (go_simp; done) | (go_simp; with_reducible rfl) | (go_simp; rfl)
                try simp only [Act.put, List.setIfInBounds_toArray, List.set_cons_zero, List.set_cons_succ]
                exact RelO.nil
              intro val w7 gW hF
              obtain ⟨h0, h1, h2, h3, h4, h5, h6, h7, h8, h9, h10, h11, hT⟩ := hF
              have e0 : val 0 = .bool true := h0 _ (Frm.refl _ w7)
              have e1 : val 1 = .bool true := h1 _ (Frm.refl _ w7)
              have e2 : val 2 = undef := h2 _ (Frm.refl _ w7)
              have e3 : val 3 = undef := h3 _ (Frm.refl _ w7)
              have e4 : val 4 = undef := h4 _ (Frm.refl _ w7)
              have e5 : val 5 = undef := h5 _ (Frm.refl _ w7)
              have e6 : val 6 = undef := h6 _ (Frm.refl _ w7)
              have e7 : val 7 = undef := h7 _ (Frm.refl _ w7)
              have e8 : val 8 = undef := h8 _ (Frm.refl _ w7)
              have e9 : val 9 = undef := h9 _ (Frm.refl _ w7)
              have e10 : val 10 = .bool true := h10 _ (Frm.refl _ w7)
              have e11 : val 11 = .bool true := h11 _ (Frm.refl _ w7)
              clear hT h0 h1 h2 h3 h4 h5 h6 h7 h8 h9 h10 h11
              simp only [aO, Act.put, List.setIfInBounds_toArray, List.set_cons_zero, List.set_cons_succ, Nat.reduceAdd]
              try simp only [e11]
              try simp only [e10]
              try simp only [e9]
              try simp only [e8]
              try simp only [e7]
              try simp only [e6]
              try simp only [e5]
              try simp only [e4]
              try simp only [e3]
              try simp only [e2]
              try simp only [e1]
              try simp only [e0]
              try simp only [tupAt]
              refine wpTail.doneN ?_
              refine hK _ _ ?_
              have HG7 := Lib.hid (gj.trans (D.trans gW))
              clear gW D hK gj e0 e1 e2 e3 e4 e5 e6 e7 e8 e9 e10 e11
              go_wp2_with fail
              go_roundw
              case rel => exact ⟨j + 1, by omega, by go_num, by rw [HNX.out], HG7.out⟩
              case measure => simp [intOf]; omega
            | false =>
              rw [hnm, Bool.false_or] at HNT
              clear hnm
              cases hdd : decide (x.1.x.d ∈ y.1.o) with
              | true =>
                have HD := Lib.hid hdd
                rw [hdd] at HNT
                have HNX := HNT
                clear hdd
                go_upto_region 12 with fail
                rename_i hK
                have D : Frm (fun _ => False) wr wr.drew := (Frm.refl _ _).drew
                clear c9
                refine wp_region_late 12 0 [] [[], [0], [1], [1, 2], [1], [1, 3, 4], [1, 5], [1, 6], [1], [1, 7, 8], [1, 9], [10]] kr12tM (kr12tR A g off j cap P x y) (by kernel_rfl) rfl rfl rfl (by kernel_rfl) (by kernel_rfl) (by kernel_rfl) (by kernel_rfl) rfl (by kernel_rfl) (by kernel_rfl) (by kernel_rfl) (by kernel_rfl) (fun val => ?_) ?_
                · try dsimp only
                  refine RelO.next (k' := 1) rfl (fun W gW hF => ?_) ?_
                  focus
                    refine OpOK.val (u := .bool false) (by rfl) ?_ (fun W' _ => rfl)
                    try simp only [tupAt]
                    first | (go_simp; done) | (go_simp; with_reducible rfl) | (go_simp; rfl)
                  try simp only [Act.put, List.setIfInBounds_toArray, List.set_cons_zero, List.set_cons_succ]
                  refine RelO.next (k' := 2) rfl (fun W gW hF => ?_) ?_
                  focus
                    obtain ⟨h0, _⟩ := hF
                    have e0 : val 0 = .bool false := h0 _ (Frm.refl _ W)
                    try simp only [e0]
                    try simp only [tupAt]
                    refine OpOK.val (u := .bool false) (by rfl) ?_ (fun W' _ => rfl)
                    try simp only [e0]
                    try simp only [tupAt]
                    first | (go_simp; done) | (go_simp; with_reducible rfl) | (go_simp; rfl)
                  try simp only [Act.put, List.setIfInBounds_toArray, List.set_cons_zero, List.set_cons_succ]
                  refine RelO.next (k' := 3) rfl (fun W gW hF => ?_) ?_
                  focus
                    obtain ⟨h1, _⟩ := hF
                    have e1 : val 1 = .bool false := h1 _ (Frm.refl _ W)
                    try simp only [e1]
                    try simp only [tupAt]
                    refine OpOK.val (u := .pointer (some ⟨A, 0, none⟩)) (by rfl) ?_ (fun W' _ => rfl)
                    try simp only [e1]
                    try simp only [tupAt]
                    first | (go_simp; done) | (go_simp; with_reducible rfl) | (go_simp; rfl)
                  try simp only [Act.put, List.setIfInBounds_toArray, List.set_cons_zero, List.set_cons_succ]
                  refine RelO.next (k' := 4) rfl (fun W gW hF => ?_) ?_
                  focus
                    obtain ⟨h1, h2, _⟩ := hF
                    have e1 : val 1 = .bool false := h1 _ (Frm.refl _ W)
                    have e2 : val 2 = .pointer (some ⟨A, 0, none⟩) := h2 _ (Frm.refl _ W)
                    try simp only [e2]
                    try simp only [e1]
                    try simp only [tupAt]
                    have c8 := (HB0.out W (D.trans gW)).cell 0 rfl
                    have a3 := Try.isAgg80
                    have z3 := Try.sizeOf80
                    exact OpOK.val (u := .slice (some ⟨g, off, none⟩) P.length cap) (by rfl) (by first | (go_simp; done) | (go_simp; with_reducible rfl) | (go_simp; rfl)) (fun W' _ => rfl)
                  try simp only [Act.put, List.setIfInBounds_toArray, List.set_cons_zero, List.set_cons_succ]
                  refine RelO.next (k' := 5) rfl (fun W gW hF => ?_) ?_
                  focus
                    obtain ⟨h1, _⟩ := hF
                    have e1 : val 1 = .bool false := h1 _ (Frm.refl _ W)
                    try simp only [e1]
                    try simp only [tupAt]
                    refine OpOK.val (u := .int .i64 (j : Int)) (by rfl) ?_ (fun W' _ => rfl)
                    try simp only [e1]
                    try simp only [tupAt]
                    first | (go_simp; done) | (go_simp; with_reducible rfl) | (go_simp; rfl)
                  try simp only [Act.put, List.setIfInBounds_toArray, List.set_cons_zero, List.set_cons_succ]
                  refine RelO.next (k' := 6) rfl (fun W gW hF => ?_) ?_
                  focus
                    obtain ⟨h1, h3, h4, _⟩ := hF
                    have e1 : val 1 = .bool false := h1 _ (Frm.refl _ W)
                    have e3 : val 3 = .slice (some ⟨g, off, none⟩) P.length cap := h3 _ (Frm.refl _ W)
                    have e4 : val 4 = .int .i64 (j : Int) := h4 _ (Frm.refl _ W)
                    try simp only [e4]
                    try simp only [e3]
                    try simp only [e1]
                    try simp only [tupAt]
                    refine OpOK.val (u := .pointer (some ⟨g, off + j * 5, none⟩)) (by rfl) ?_ (fun W' _ => rfl)
                    try simp only [e4]
                    try simp only [e3]
                    try simp only [e1]
                    try simp only [tupAt]
                    first | (go_simp; done) | (go_simp; with_reducible rfl) | (go_simp; rfl)
                  try simp only [Act.put, List.setIfInBounds_toArray, List.set_cons_zero, List.set_cons_succ]
                  refine RelO.next (k' := 7) rfl (fun W gW hF => ?_) ?_
                  focus
                    obtain ⟨h1, h5, _⟩ := hF
                    have e1 : val 1 = .bool false := h1 _ (Frm.refl _ W)
                    have e5 : val 5 = .pointer (some ⟨g, off + j * 5, none⟩) := h5 _ (Frm.refl _ W)
                    try simp only [e5]
                    try simp only [e1]
                    try simp only [tupAt]
                    refine OpOK.val (u := .pointer (some ⟨g, off + j * 5 + 4, none⟩)) (by rfl) ?_ (fun W' _ => rfl)
                    try simp only [e5]
                    try simp only [e1]
                    try simp only [tupAt]
                    first | (go_simp; done) | (go_simp; with_reducible rfl) | (go_simp; rfl)
                  try simp only [Act.put, List.setIfInBounds_toArray, List.set_cons_zero, List.set_cons_succ]
                  refine RelO.next (k' := 8) rfl (fun W gW hF => ?_) ?_
                  focus
                    obtain ⟨h1, h6, _⟩ := hF
                    have e1 : val 1 = .bool false := h1 _ (Frm.refl _ W)
                    have e6 : val 6 = .pointer (some ⟨g, off + j * 5 + 4, none⟩) := h6 _ (Frm.refl _ W)
                    try simp only [e6]
                    try simp only [e1]
                    try simp only [tupAt]
                    have c4 := HY4.out W (D.trans gW)
                    obtain ⟨ya, yc, hy2⟩ := HYS.out
                    have a3 := Try.isAgg52
                    have z3 := Try.sizeOf52
                    exact OpOK.val (u := y.2) (by rfl) (by first | (go_simp; done) | (go_simp; with_reducible rfl) | (go_simp; rfl)) (fun W' _ => rfl)
                  try simp only [Act.put, List.setIfInBounds_toArray, List.set_cons_zero, List.set_cons_succ]
                  refine RelO.next (k' := 9) rfl (fun W gW hF => ?_) ?_
                  focus
                    obtain ⟨h1, _⟩ := hF
                    have e1 : val 1 = .bool false := h1 _ (Frm.refl _ W)
                    try simp only [e1]
                    try simp only [tupAt]
                    exact OpOK.load (by rfl) _ rfl (by rfl) (load_rdotB (HBD.out W (D.trans gW))) (fun W' _ => rfl)
                  try simp only [Act.put, List.setIfInBounds_toArray, List.set_cons_zero, List.set_cons_succ]
                  refine RelO.next (k' := 10) rfl (fun W gW hF => ?_) ?_
                  focus
                    obtain ⟨h1, h7, h8, _⟩ := hF
                    have e1 : val 1 = .bool false := h1 _ (Frm.refl _ W)
                    have e7 : val 7 = y.2 := h7 _ (Frm.refl _ W)
                    have e8 : val 8 = .agg (dv x.1.x.r x.1.x.n) := h8 _ (Frm.refl _ W)
                    try simp only [e8]
                    try simp only [e7]
                    try simp only [e1]
                    try simp only [tupAt]
                    refine OpOK.call (by rfl) ?_ ((rin_sib y.2 y.1.o x.1.x W (HYO.out W (D.trans gW))).mono ?_)
                    · first | (go_simp; done) | (go_simp; with_reducible rfl) | (go_simp; rfl)
                    · rintro e W1 ⟨he, g1⟩
                      rw [HD.out] at he
                      subst he
                      exact ⟨_, rfl, g1, fun W2 _ => rfl⟩
                  try simp only [Act.put, List.setIfInBounds_toArray, List.set_cons_zero, List.set_cons_succ]
                  refine RelO.next (k' := 11) rfl (fun W gW hF => ?_) ?_
                  focus
                    obtain ⟨h1, h9, _⟩ := hF
                    have e1 : val 1 = .bool false := h1 _ (Frm.refl _ W)
                    have e9 : val 9 = .bool true := h9 _ (Frm.refl _ W)
                    try simp only [e9]
                    try simp only [e1]
                    try simp only [tupAt]
                    refine OpOK.val (u := .bool true) (by rfl) ?_ (fun W' _ => rfl)
                    try simp only [e9]
                    try simp only [e1]
                    try simp only [tupAt]
                    first | (go_simp; done) | (go_simp; with_reducible rfl) | (go_simp; rfl)
                  try simp only [Act.put, List.setIfInBounds_toArray, List.set_cons_zero, List.set_cons_succ]
                  refine RelO.next (k' := 12) rfl (fun W gW hF => ?_) ?_
                  focus
                    obtain ⟨h10, _⟩ := hF
                    have e10 : val 10 = .bool true := h10 _ (Frm.refl _ W)
                    try simp only [e10]
                    try simp only [tupAt]
                    refine OpOK.val (u := .bool true) (by rfl) ?_ (fun W' _ => rfl)
                    try simp only [e10]
                    try simp only [tupAt]
                    first | (go_simp; done) | (go_simp; with_reducible rfl) | (go_simp; rfl)
                  try simp only [Act.put, List.setIfInBounds_toArray, List.set_cons_zero, List.set_cons_succ]
                  exact RelO.nil
                intro val w7 gW hF
                obtain ⟨h0, h1, h2, h3, h4, h5, h6, h7, h8, h9, h10, h11, hT⟩ := hF
                have e0 : val 0 = .bool false := h0 _ (Frm.refl _ w7)
                have e1 : val 1 = .bool false := h1 _ (Frm.refl _ w7)
                have e2 : val 2 = .pointer (some ⟨A, 0, none⟩) := h2 _ (Frm.refl _ w7)
                have e3 : val 3 = .slice (some ⟨g, off, none⟩) P.length cap := h3 _ (Frm.refl _ w7)
                have e4 : val 4 = .int .i64 (j : Int) := h4 _ (Frm.refl _ w7)
                have e5 : val 5 = .pointer (some ⟨g, off + j * 5, none⟩) := h5 _ (Frm.refl _ w7)
                have e6 : val 6 = .pointer (some ⟨g, off + j * 5 + 4, none⟩) := h6 _ (Frm.refl _ w7)
                have e7 : val 7 = y.2 := h7 _ (Frm.refl _ w7)
                have e8 : val 8 = .agg (dv x.1.x.r x.1.x.n) := h8 _ (Frm.refl _ w7)
                have e9 : val 9 = .bool true := h9 _ (Frm.refl _ w7)
                have e10 : val 10 = .bool true := h10 _ (Frm.refl _ w7)
                have e11 : val 11 = .bool true := h11 _ (Frm.refl _ w7)
                clear hT h0 h1 h2 h3 h4 h5 h6 h7 h8 h9 h10 h11
                simp only [aO, Act.put, List.setIfInBounds_toArray, List.set_cons_zero, List.set_cons_succ, Nat.reduceAdd]
                try simp only [e11]
                try simp only [e10]
                try simp only [e9]
                try simp only [e8]
                try simp only [e7]
                try simp only [e6]
                try simp only [e5]
                try simp only [e4]
                try simp only [e3]
                try simp only [e2]
                try simp only [e1]
                try simp only [e0]
                try simp only [tupAt]
                refine wpTail.doneN ?_
                refine hK _ _ ?_
                have HG7 := Lib.hid (gj.trans (D.trans gW))
                clear gW D hK gj e0 e1 e2 e3 e4 e5 e6 e7 e8 e9 e10 e11
                go_wp2_with fail
                go_roundw
                case rel => exact ⟨j + 1, by omega, by go_num, by rw [HNX.out], HG7.out⟩
                case measure => simp [intOf]; omega
              | false =>
                have HD := Lib.hid hdd
                rw [hdd] at HNT
                have HNX := HNT
                clear hdd
                go_upto_region 12 with fail
                rename_i hK
                have D : Frm (fun _ => False) wr wr.drew := (Frm.refl _ _).drew
                clear c9
                refine wp_region_late 12 0 [] [[], [0], [1], [1, 2], [1], [1, 3, 4], [1, 5], [1, 6], [1], [1, 7, 8], [1, 9], [10]] kr12fM (kr12fR A g off j cap P x y) (by kernel_rfl) rfl rfl rfl (by kernel_rfl) (by kernel_rfl) (by kernel_rfl) (by kernel_rfl) rfl (by kernel_rfl) (by kernel_rfl) (by kernel_rfl) (by kernel_rfl) (fun val => ?_) ?_
                · try dsimp only
                  refine RelO.next (k' := 1) rfl (fun W gW hF => ?_) ?_
                  focus
                    refine OpOK.val (u := .bool false) (by rfl) ?_ (fun W' _ => rfl)
                    try simp only [tupAt]
                    first | (go_simp; done) | (go_simp; with_reducible rfl) | (go_simp; rfl)
                  try simp only [Act.put, List.setIfInBounds_toArray, List.set_cons_zero, List.set_cons_succ]
                  refine RelO.next (k' := 2) rfl (fun W gW hF => ?_) ?_
                  focus
                    obtain ⟨h0, _⟩ := hF
                    have e0 : val 0 = .bool false := h0 _ (Frm.refl _ W)
                    try simp only [e0]
                    try simp only [tupAt]
                    refine OpOK.val (u := .bool false) (by rfl) ?_ (fun W' _ => rfl)
                    try simp only [e0]
                    try simp only [tupAt]
                    first | (go_simp; done) | (go_simp; with_reducible rfl) | (go_simp; rfl)
                  try simp only [Act.put, List.setIfInBounds_toArray, List.set_cons_zero, List.set_cons_succ]
                  refine RelO.next (k' := 3) rfl (fun W gW hF => ?_) ?_
                  focus
                    obtain ⟨h1, _⟩ := hF
                    have e1 : val 1 = .bool false := h1 _ (Frm.refl _ W)
                    try simp only [e1]
                    try simp only [tupAt]
                    refine OpOK.val (u := .pointer (some ⟨A, 0, none⟩)) (by rfl) ?_ (fun W' _ => rfl)
                    try simp only [e1]
                    try simp only [tupAt]
                    first | (go_simp; done) | (go_simp; with_reducible rfl) | (go_simp; rfl)
                  try simp only [Act.put, List.setIfInBounds_toArray, List.set_cons_zero, List.set_cons_succ]
                  refine RelO.next (k' := 4) rfl (fun W gW hF => ?_) ?_
                  focus
                    obtain ⟨h1, h2, _⟩ := hF
                    have e1 : val 1 = .bool false := h1 _ (Frm.refl _ W)
                    have e2 : val 2 = .pointer (some ⟨A, 0, none⟩) := h2 _ (Frm.refl _ W)
                    try simp only [e2]
                    try simp only [e1]
                    try simp only [tupAt]
                    have c8 := (HB0.out W (D.trans gW)).cell 0 rfl
                    have a3 := Try.isAgg80
                    have z3 := Try.sizeOf80
                    exact OpOK.val (u := .slice (some ⟨g, off, none⟩) P.length cap) (by rfl) (by first | (go_simp; done) | (go_simp; with_reducible rfl) | (go_simp; rfl)) (fun W' _ => rfl)
                  try simp only [Act.put, List.setIfInBounds_toArray, List.set_cons_zero, List.set_cons_succ]
                  refine RelO.next (k' := 5) rfl (fun W gW hF => ?_) ?_
                  focus
                    obtain ⟨h1, _⟩ := hF
                    have e1 : val 1 = .bool false := h1 _ (Frm.refl _ W)
                    try simp only [e1]
                    try simp only [tupAt]
                    refine OpOK.val (u := .int .i64 (j : Int)) (by rfl) ?_ (fun W' _ => rfl)
                    try simp only [e1]
                    try simp only [tupAt]
                    first | (go_simp; done) | (go_simp; with_reducible rfl) | (go_simp; rfl)
                  try simp only [Act.put, List.setIfInBounds_toArray, List.set_cons_zero, List.set_cons_succ]
                  refine RelO.next (k' := 6) rfl (fun W gW hF => ?_) ?_
                  focus
                    obtain ⟨h1, h3, h4, _⟩ := hF
                    have e1 : val 1 = .bool false := h1 _ (Frm.refl _ W)
                    have e3 : val 3 = .slice (some ⟨g, off, none⟩) P.length cap := h3 _ (Frm.refl _ W)
                    have e4 : val 4 = .int .i64 (j : Int) := h4 _ (Frm.refl _ W)
                    try simp only [e4]
                    try simp only [e3]
                    try simp only [e1]
                    try simp only [tupAt]
                    refine OpOK.val (u := .pointer (some ⟨g, off + j * 5, none⟩)) (by rfl) ?_ (fun W' _ => rfl)
                    try simp only [e4]
                    try simp only [e3]
                    try simp only [e1]
                    try simp only [tupAt]
                    first | (go_simp; done) | (go_simp; with_reducible rfl) | (go_simp; rfl)
                  try simp only [Act.put, List.setIfInBounds_toArray, List.set_cons_zero, List.set_cons_succ]
                  refine RelO.next (k' := 7) rfl (fun W gW hF => ?_) ?_
                  focus
                    obtain ⟨h1, h5, _⟩ := hF
                    have e1 : val 1 = .bool false := h1 _ (Frm.refl _ W)
                    have e5 : val 5 = .pointer (some ⟨g, off + j * 5, none⟩) := h5 _ (Frm.refl _ W)
                    try simp only [e5]
                    try simp only [e1]
                    try simp only [tupAt]
                    refine OpOK.val (u := .pointer (some ⟨g, off + j * 5 + 4, none⟩)) (by rfl) ?_ (fun W' _ => rfl)
                    try simp only [e5]
                    try simp only [e1]
                    try simp only [tupAt]
                    first | (go_simp; done) | (go_simp; with_reducible rfl) | (go_simp; rfl)
                  try simp only [Act.put, List.setIfInBounds_toArray, List.set_cons_zero, List.set_cons_succ]
                  refine RelO.next (k' := 8) rfl (fun W gW hF => ?_) ?_
                  focus
                    obtain ⟨h1, h6, _⟩ := hF
                    have e1 : val 1 = .bool false := h1 _ (Frm.refl _ W)
                    have e6 : val 6 = .pointer (some ⟨g, off + j * 5 + 4, none⟩) := h6 _ (Frm.refl _ W)
                    try simp only [e6]
                    try simp only [e1]
                    try simp only [tupAt]
                    have c4 := HY4.out W (D.trans gW)
                    obtain ⟨ya, yc, hy2⟩ := HYS.out
                    have a3 := Try.isAgg52
                    have z3 := Try.sizeOf52
                    exact OpOK.val (u := y.2) (by rfl) (by first | (go_simp; done) | (go_simp; with_reducible rfl) | (go_simp; rfl)) (fun W' _ => rfl)
                  try simp only [Act.put, List.setIfInBounds_toArray, List.set_cons_zero, List.set_cons_succ]
                  refine RelO.next (k' := 9) rfl (fun W gW hF => ?_) ?_
                  focus
                    obtain ⟨h1, _⟩ := hF
                    have e1 : val 1 = .bool false := h1 _ (Frm.refl _ W)
                    try simp only [e1]
                    try simp only [tupAt]
                    exact OpOK.load (by rfl) _ rfl (by rfl) (load_rdotB (HBD.out W (D.trans gW))) (fun W' _ => rfl)
                  try simp only [Act.put, List.setIfInBounds_toArray, List.set_cons_zero, List.set_cons_succ]
                  refine RelO.next (k' := 10) rfl (fun W gW hF => ?_) ?_
                  focus
                    obtain ⟨h1, h7, h8, _⟩ := hF
                    have e1 : val 1 = .bool false := h1 _ (Frm.refl _ W)
                    have e7 : val 7 = y.2 := h7 _ (Frm.refl _ W)
                    have e8 : val 8 = .agg (dv x.1.x.r x.1.x.n) := h8 _ (Frm.refl _ W)
                    try simp only [e8]
                    try simp only [e7]
                    try simp only [e1]
                    try simp only [tupAt]
                    refine OpOK.call (by rfl) ?_ ((rin_sib y.2 y.1.o x.1.x W (HYO.out W (D.trans gW))).mono ?_)
                    · first | (go_simp; done) | (go_simp; with_reducible rfl) | (go_simp; rfl)
                    · rintro e W1 ⟨he, g1⟩
                      rw [HD.out] at he
                      subst he
                      exact ⟨_, rfl, g1, fun W2 _ => rfl⟩
                  try simp only [Act.put, List.setIfInBounds_toArray, List.set_cons_zero, List.set_cons_succ]
                  refine RelO.next (k' := 11) rfl (fun W gW hF => ?_) ?_
                  focus
                    obtain ⟨h1, h9, _⟩ := hF
                    have e1 : val 1 = .bool false := h1 _ (Frm.refl _ W)
                    have e9 : val 9 = .bool false := h9 _ (Frm.refl _ W)
                    try simp only [e9]
                    try simp only [e1]
                    try simp only [tupAt]
                    refine OpOK.val (u := .bool false) (by rfl) ?_ (fun W' _ => rfl)
                    try simp only [e9]
                    try simp only [e1]
                    try simp only [tupAt]
                    first | (go_simp; done) | (go_simp; with_reducible rfl) | (go_simp; rfl)
                  try simp only [Act.put, List.setIfInBounds_toArray, List.set_cons_zero, List.set_cons_succ]
                  refine RelO.next (k' := 12) rfl (fun W gW hF => ?_) ?_
                  focus
                    obtain ⟨h10, _⟩ := hF
                    have e10 : val 10 = .bool false := h10 _ (Frm.refl _ W)
                    try simp only [e10]
                    try simp only [tupAt]
                    refine OpOK.val (u := .bool false) (by rfl) ?_ (fun W' _ => rfl)
                    try simp only [e10]
                    try simp only [tupAt]
                    first | (go_simp; done) | (go_simp; with_reducible rfl) | (go_simp; rfl)
                  try simp only [Act.put, List.setIfInBounds_toArray, List.set_cons_zero, List.set_cons_succ]
                  exact RelO.nil
                intro val w7 gW hF
                obtain ⟨h0, h1, h2, h3, h4, h5, h6, h7, h8, h9, h10, h11, hT⟩ := hF
                have e0 : val 0 = .bool false := h0 _ (Frm.refl _ w7)
                have e1 : val 1 = .bool false := h1 _ (Frm.refl _ w7)
                have e2 : val 2 = .pointer (some ⟨A, 0, none⟩) := h2 _ (Frm.refl _ w7)
                have e3 : val 3 = .slice (some ⟨g, off, none⟩) P.length cap := h3 _ (Frm.refl _ w7)
                have e4 : val 4 = .int .i64 (j : Int) := h4 _ (Frm.refl _ w7)
                have e5 : val 5 = .pointer (some ⟨g, off + j * 5, none⟩) := h5 _ (Frm.refl _ w7)
                have e6 : val 6 = .pointer (some ⟨g, off + j * 5 + 4, none⟩) := h6 _ (Frm.refl _ w7)
                have e7 : val 7 = y.2 := h7 _ (Frm.refl _ w7)
                have e8 : val 8 = .agg (dv x.1.x.r x.1.x.n) := h8 _ (Frm.refl _ w7)
                have e9 : val 9 = .bool false := h9 _ (Frm.refl _ w7)
                have e10 : val 10 = .bool false := h10 _ (Frm.refl _ w7)
                have e11 : val 11 = .bool false := h11 _ (Frm.refl _ w7)
                clear hT h0 h1 h2 h3 h4 h5 h6 h7 h8 h9 h10 h11
                simp only [aO, Act.put, List.setIfInBounds_toArray, List.set_cons_zero, List.set_cons_succ, Nat.reduceAdd]
                try simp only [e11]
                try simp only [e10]
                try simp only [e9]
                try simp only [e8]
                try simp only [e7]
                try simp only [e6]
                try simp only [e5]
                try simp only [e4]
                try simp only [e3]
                try simp only [e2]
                try simp only [e1]
                try simp only [e0]
                try simp only [tupAt]
                refine wpTail.doneN ?_
                refine hK _ _ ?_
                have HG7 := Lib.hid (gj.trans (D.trans gW))
                clear gW D hK gj e0 e1 e2 e3 e4 e5 e6 e7 e8 e9 e10 e11
                go_wp2_with fail
                go_roundw
                case rel => exact ⟨j + 1, by omega, by go_num, by rw [HNX.out], HG7.out⟩
                case measure => simp [intOf]; omega
          · obtain rfl : j = P.length := by omega
            have HSE := Lib.hid (seenK_eq QE x.1)
            rw [show QE.take P.length = QE by rw [← hQl, List.take_length]]
            have hx2 := (HX.out wr gj).1
            have HX3 : Hid (∀ W, Frm (fun _ => False) wr W → W.cell? ⟨g, off + k * 5 + 3, none⟩ = some (.string (bs x.1.x.s))) := Lib.hid fun W gg => (HX.out W (gj.trans gg)).2
            have HF := Lib.hid (HF5.out.keep gj)
            replace HBD := Hid.grow HBD gj
            cases hnm : nmK QE x.1.x.d with
            | true =>
              rw [hnm, Bool.not_true, Bool.and_false] at HSE
              have HNX := Lib.hid (HST.out.trans (by rw [HSE.out]))
              clear hnm
              cases his : x.1.is
              all_goals
                rw [his] at hx2
                go_wp2_with fail
                go_roundw
                case rel => exact ⟨k + 1, u, by omega, by go_num, by rw [HCX.out, HNX.out]; exact HF.out⟩
                case measure => simp [intOf]; omega
            | false =>
              rw [hnm, Bool.not_false, Bool.and_true] at HSE
              clear hnm
              cases his : x.1.is with
              | false =>
                rw [his] at hx2 HSE
                have HNX := Lib.hid (HST.out.trans (by rw [HSE.out]))
                go_wp2_with fail
                go_roundw
                case rel => exact ⟨k + 1, u, by omega, by go_num, by rw [HCX.out, HNX.out]; exact HF.out⟩
                case measure => simp [intOf]; omega
              | true =>
                rw [his] at hx2 HSE
                have HNX : Hid (sibK QE [] (QE.take (k + 1)) = putL lf x.1.x) := Lib.hid (HST.out.trans (if_pos HSE.out))
                go_upto_region 14 with fail
                have D : Frm (fun _ => False) wr wr.drew := (Frm.refl _ _).drew
                clear hx2 c9 his
                refine wp_region_late 11 2 [] [[], [0], [], [], [3], [], [4, 5], [6], [7], [2, 8], [1, 9]] kr14M (kr14R A g off k cap B u lf P x) (by kernel_rfl) rfl rfl rfl (by kernel_rfl) (by kernel_rfl) (by kernel_rfl) (by kernel_rfl) rfl (by kernel_rfl) (by kernel_rfl) (by kernel_rfl) (by kernel_rfl) (fun val => ?_) ?_
                · try simp only [Act.put, List.setIfInBounds_toArray, List.set_cons_zero, List.set_cons_succ]
                  refine RelO.next (k' := 1) rfl (fun W gW hF => ?_) ?_
                  focus
                    refine OpOK.val (u := .pointer (some ⟨B, 8, none⟩)) (by rfl) ?_ (fun W' _ => rfl)
                    try simp only [tupAt]
                    first | (go_simp; done) | (go_simp; with_reducible rfl) | (go_simp; rfl)
                  try simp only [Act.put, List.setIfInBounds_toArray, List.set_cons_zero, List.set_cons_succ]
                  refine RelO.next (k' := 2) rfl (fun W gW hF => ?_) ?_
                  focus
                    obtain ⟨h0, _⟩ := hF
                    have e0 : val 0 = .pointer (some ⟨B, 8, none⟩) := h0 _ (Frm.refl _ W)
                    try simp only [e0]
                    try simp only [tupAt]
                    have c8 := (HF.out.keep (D.trans gW)).blk.cell 8 rfl
                    have a3 := Try.isAgg45
                    have z3 := Try.sizeOf45
                    exact OpOK.val (u := u) (by rfl) (by first | (go_simp; done) | (go_simp; with_reducible rfl) | (go_simp; rfl)) (fun W' _ => rfl)
                  try simp only [Act.put, List.setIfInBounds_toArray, List.set_cons_zero, List.set_cons_succ]
                  refine RelO.next (k' := 3) rfl (fun W gW hF => ?_) ?_
                  focus
                    exact OpOK.load (by rfl) _ rfl (by rfl) (load_rdotB (HBD.out W (D.trans gW))) (fun W' _ => rfl)
                  try simp only [Act.put, List.setIfInBounds_toArray, List.set_cons_zero, List.set_cons_succ]
                  refine RelO.next (k' := 4) rfl (fun W gW hF => ?_) ?_
                  focus
                    refine OpOK.val (u := .pointer (some ⟨A, 0, none⟩)) (by rfl) ?_ (fun W' _ => rfl)
                    try simp only [tupAt]
                    first | (go_simp; done) | (go_simp; with_reducible rfl) | (go_simp; rfl)
                  try simp only [Act.put, List.setIfInBounds_toArray, List.set_cons_zero, List.set_cons_succ]
                  refine RelO.next (k' := 5) rfl (fun W gW hF => ?_) ?_
                  focus
                    obtain ⟨h3, _⟩ := hF
                    have e3 : val 3 = .pointer (some ⟨A, 0, none⟩) := h3 _ (Frm.refl _ W)
                    try simp only [e3]
                    try simp only [tupAt]
                    have c8 := (HB0.out W (D.trans gW)).cell 0 rfl
                    have a3 := Try.isAgg80
                    have z3 := Try.sizeOf80
                    exact OpOK.val (u := .slice (some ⟨g, off, none⟩) P.length cap) (by rfl) (by first | (go_simp; done) | (go_simp; with_reducible rfl) | (go_simp; rfl)) (fun W' _ => rfl)
                  try simp only [Act.put, List.setIfInBounds_toArray, List.set_cons_zero, List.set_cons_succ]
                  refine RelO.next (k' := 6) rfl (fun W gW hF => ?_) ?_
                  focus
                    refine OpOK.val (u := .int .i64 (k : Int)) (by rfl) ?_ (fun W' _ => rfl)
                    try simp only [tupAt]
                    first | (go_simp; done) | (go_simp; with_reducible rfl) | (go_simp; rfl)
                  try simp only [Act.put, List.setIfInBounds_toArray, List.set_cons_zero, List.set_cons_succ]
                  refine RelO.next (k' := 7) rfl (fun W gW hF => ?_) ?_
                  focus
                    obtain ⟨h4, h5, _⟩ := hF
                    have e4 : val 4 = .slice (some ⟨g, off, none⟩) P.length cap := h4 _ (Frm.refl _ W)
                    have e5 : val 5 = .int .i64 (k : Int) := h5 _ (Frm.refl _ W)
                    try simp only [e5]
                    try simp only [e4]
                    try simp only [tupAt]
                    refine OpOK.val (u := .pointer (some ⟨g, off + k * 5, none⟩)) (by rfl) ?_ (fun W' _ => rfl)
                    try simp only [e5]
                    try simp only [e4]
                    try simp only [tupAt]
                    first | (go_simp; done) | (go_simp; with_reducible rfl) | (go_simp; rfl)
                  try simp only [Act.put, List.setIfInBounds_toArray, List.set_cons_zero, List.set_cons_succ]
                  refine RelO.next (k' := 8) rfl (fun W gW hF => ?_) ?_
                  focus
                    obtain ⟨h6, _⟩ := hF
                    have e6 : val 6 = .pointer (some ⟨g, off + k * 5, none⟩) := h6 _ (Frm.refl _ W)
                    try simp only [e6]
                    try simp only [tupAt]
                    refine OpOK.val (u := .pointer (some ⟨g, off + k * 5 + 3, none⟩)) (by rfl) ?_ (fun W' _ => rfl)
                    try simp only [e6]
                    try simp only [tupAt]
                    first | (go_simp; done) | (go_simp; with_reducible rfl) | (go_simp; rfl)
                  try simp only [Act.put, List.setIfInBounds_toArray, List.set_cons_zero, List.set_cons_succ]
                  refine RelO.next (k' := 9) rfl (fun W gW hF => ?_) ?_
                  focus
                    obtain ⟨h7, _⟩ := hF
                    have e7 : val 7 = .pointer (some ⟨g, off + k * 5 + 3, none⟩) := h7 _ (Frm.refl _ W)
                    try simp only [e7]
                    try simp only [tupAt]
                    have c3 := HX3.out W (D.trans gW)
                    exact OpOK.val (u := .string (bs x.1.x.s)) (by rfl) (by first | (go_simp; done) | (go_simp; with_reducible rfl) | (go_simp; rfl)) (fun W' _ => rfl)
                  try simp only [Act.put, List.setIfInBounds_toArray, List.set_cons_zero, List.set_cons_succ]
                  refine RelO.next (k' := 10) rfl (fun W gW hF => ?_) ?_
                  focus
                    obtain ⟨h2, h8, _⟩ := hF
                    have e2 : val 2 = .agg (dv x.1.x.r x.1.x.n) := h2 _ (Frm.refl _ W)
                    have e8 : val 8 = .string (bs x.1.x.s) := h8 _ (Frm.refl _ W)
                    try simp only [e8]
                    try simp only [e2]
                    try simp only [tupAt]
                    refine OpOK.val (u := .agg #[.int .u8 x.1.x.r, .int .u32 x.1.x.n, .string (bs x.1.x.s)]) (by rfl) ?_ (fun W' _ => rfl)
                    try simp only [e8]
                    try simp only [e2]
                    try simp only [tupAt]
                    first | (go_simp; done) | (go_simp; with_reducible rfl) | (go_simp; rfl)
                  try simp only [Act.put, List.setIfInBounds_toArray, List.set_cons_zero, List.set_cons_succ]
                  refine RelO.next (k' := 11) rfl (fun W gW hF => ?_) ?_
                  focus
                    obtain ⟨h1, h9, _⟩ := hF
                    have e1 : val 1 = u := h1 _ (Frm.refl _ W)
                    have e9 : val 9 = .agg #[.int .u8 x.1.x.r, .int .u32 x.1.x.n, .string (bs x.1.x.s)] := h9 _ (Frm.refl _ W)
                    try simp only [e9]
                    try simp only [e1]
                    try simp only [tupAt]
                    have hBW := (HF.out.keep (D.trans gW)).blk.lt
                    refine OpOK.call (by rfl) ?_ ((rput_any u lf x.1.x W (HF.out.keep (D.trans gW)).own.sl (by omega)).mono ?_)
                    · first | (go_simp; done) | (go_simp; with_reducible rfl) | (go_simp; rfl)
                    · rintro e W1 ⟨v', rfl, o', g', n'⟩
                      exact ⟨_, rfl, g', fun W2 g2 => ⟨v', rfl, o'.keep g2 (fun _ _ h => h), fun g e => Nat.lt_of_lt_of_le hBW (n' g e)⟩⟩
                  try simp only [Act.put, List.setIfInBounds_toArray, List.set_cons_zero, List.set_cons_succ]
                  exact RelO.nil
                intro val w8 gW hF
                obtain ⟨h0, h1, h2, h3, h4, h5, h6, h7, h8, h9, h10, hT⟩ := hF
                have e0 : val 0 = .pointer (some ⟨B, 8, none⟩) := h0 _ (Frm.refl _ w8)
                have e1 : val 1 = u := h1 _ (Frm.refl _ w8)
                have e2 : val 2 = .agg (dv x.1.x.r x.1.x.n) := h2 _ (Frm.refl _ w8)
                have e3 : val 3 = .pointer (some ⟨A, 0, none⟩) := h3 _ (Frm.refl _ w8)
                have e4 : val 4 = .slice (some ⟨g, off, none⟩) P.length cap := h4 _ (Frm.refl _ w8)
                have e5 : val 5 = .int .i64 (k : Int) := h5 _ (Frm.refl _ w8)
                have e6 : val 6 = .pointer (some ⟨g, off + k * 5, none⟩) := h6 _ (Frm.refl _ w8)
                have e7 : val 7 = .pointer (some ⟨g, off + k * 5 + 3, none⟩) := h7 _ (Frm.refl _ w8)
                have e8 : val 8 = .string (bs x.1.x.s) := h8 _ (Frm.refl _ w8)
                have e9 : val 9 = .agg #[.int .u8 x.1.x.r, .int .u32 x.1.x.n, .string (bs x.1.x.s)] := h9 _ (Frm.refl _ w8)
                have q10 : ∃ z, (val 10) = z ∧ OwnL w8 z (putL lf x.1.x) ∧ ∀ g, z.ownBlock = some g → B < g := h10 _ (Frm.refl _ w8)
                obtain ⟨xp, e10, op, np⟩ := q10
                clear hT h0 h1 h2 h3 h4 h5 h6 h7 h8 h9 h10
                simp only [aO, Act.put, List.setIfInBounds_toArray, List.set_cons_zero, List.set_cons_succ, Nat.reduceAdd]
                try simp only [e10]
                try simp only [e9]
                try simp only [e8]
                try simp only [e7]
                try simp only [e6]
                try simp only [e5]
                try simp only [e4]
                try simp only [e3]
                try simp only [e2]
                try simp only [e1]
                try simp only [e0]
                try simp only [tupAt]
                obtain ⟨ap, cp, rfl, _, _⟩ := Row.slice op
                refine tail_setR (w0 := w2) B _ lf (putL lf x.1.x) u _ _ _ rfl rfl rfl rfl rfl rfl rfl (HF.out.keep (D.trans gW)) op np (fun W' => ?_) rfl rfl ?_
                · first | (go_simp; done) | (go_simp; with_reducible rfl) | (go_simp; rfl)
                intro w9 F2
                try simp only [Act.put, List.setIfInBounds_toArray, List.set_cons_zero, List.set_cons_succ]
                refine hKb _ _ ?_
                rw [← HNX.out, ← HCX.out] at F2
                clear gW D op np HF HX HX3 e0 e1 e2 e3 e4 e5 e6 e7 e8 e9 e10
                go_wp2_with fail
                go_roundw
                case rel => exact ⟨k + 1, _, by omega, by go_num, F2⟩
                case measure => simp [intOf]; omega
    · obtain rfl : k = P.length := by omega
      have F8 := HF.out
      rw [show QE.take P.length = QE by rw [← hQl, List.take_length]] at F8
      clear HF
      have b2 := HB1.out wr F8.frm
      have c9 := F8.blk.cell 8 rfl
      obtain ⟨a3, c3, rfl, _, _⟩ := Row.slice F8.own
      have hlo := fun g e => (F8.out g e).1
      obtain ⟨cf, hcf⟩ : ∃ cf, ctxK (fun _ => 0) QE = cf := ⟨_, rfl⟩
      obtain ⟨lf, hlf⟩ : ∃ lf, sibK QE [] QE = lf := ⟨_, rfl⟩
      have HCF := Lib.hid hcf
      have HLF := Lib.hid hlf
      rw [hcf, hlf] at F8
      rw [hlf] at hlo
      have lR := load_rreg F8.blk
      have HF8 := Lib.hid F8
      clear F8 hcf hlf c9
      go_wp2_with (first
        | ((with_reducible refine wpl_load rfl _ rfl ?_ lR ?_); (focus rfl))
        | ((with_reducible refine wpl_store_blk rfl 47 _ _ rfl (A + 1) (rgc cf (.slice a3 lf.length c3)) rz ?_ ?_ b2 rfl ?_ ?_ ?_); (focus rfl); (focus rfl); (focus (show _ = some 9; kernel_rfl)); (focus (exact rg_one _ _ _ _)); intro w9 e2 g9 z9; have c8' := e2.cell 8 rfl; have h2 := rcellsT e2))
      refine bodyPost_ret (v := rg cf (.slice a3 lf.length c3)) (by simp [results, Try.results41, go_sem, h2, c8']) rfl ?_
      refine ⟨.slice a3 lf.length c3, by rw [HCF.out], ?_, ?_⟩
      rw [HLF.out]
      exact (HF8.out.own.keep g9 (fun g e h => by have h : g = A + 1 := h; have := hlo g e; have := HBE.out; omega)).sl
      exact (HG0.out.trans HF8.out.frm).next g9 (fun k hk h => by have h : k = A + 1 := h; have := HA.out; omega)
end Go.Proofs.Ytojbgckabifnjaa

