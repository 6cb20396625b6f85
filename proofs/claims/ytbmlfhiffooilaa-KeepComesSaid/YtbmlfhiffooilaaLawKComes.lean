/- KeepComes answers true: of any policy, any versions, any two numbers. No condition. -/
import Derived.Test.YtbmlfhiffooilaaKpJ
import Derived.Test.YtbmlfhiffooilaaAppF
namespace Go.Proofs.Ytbmlfhiffooilaa
open Go.RowKit Go.Shelf

theorem run_full (W : World) (a : Option Addr) (n c : Nat) (h : n ≤ c) (ha : ∀ x, a = some x → ∃ g, x = ⟨g, 0, none⟩) :
    (Instr.slice 38 (.slice a n c) none (some (.int .i64 (n : Int))) (some (.int .i64 (n : Int)))).run Try.prog W = .ok (.slice a n n) W := by
  have hu : Try.prog.underlying 38 = some (.slice (Try.prog.elem 38)) := by kernel_rfl
  have hs : (sizeOf (Try.prog.elem 38)).run Try.prog W = .ok 2 W := by
    rw [show Try.prog.elem 38 = 24 by kernel_rfl]
    have z3 := Try.sizeOf24
    go_simp
  rw [run_slice_hm W _ a n c hu .i64 .i64 n n (by omega) (by omega) (by omega), hs]
  simp only [Result.andThen, sliced, Int.toNat_natCast, Nat.sub_zero, Nat.zero_mul]
  have e : a.map (fun x => x.add 0) = a := by
    cases a with
    | none => rfl
    | some x =>
      obtain ⟨g, rfl⟩ := ha x rfl
      simp [Addr.add]
  rw [e]
  split <;> rfl
theorem append_fullS (w : World) (a : Option Addr) (n : Nat) (x : Value) (l : List StI) (s : StI) (h : Row w 2 (.slice a n n) n (flat stc l)) (hn : n = l.length) (hs : StL w x [s]) (hb : l.length ≤ 1000) :
    ∃ v' w', (Builtin.append_ #[38, 38] 38 #[.slice a n n, x]).run Try.prog w = .ok v' w' ∧ OwnSt w' v' (l ++ [s]) ∧ Frm (fun _ => False) w w' := by
  obtain ⟨i0, hi, hz0, hz1, hz2⟩ := info_parts infoSt
  obtain ⟨v', w', h1, h2, h3⟩ := append_full w 38 38 38 24 i0 (.agg #[.int .u32 0, .int .u32 0]) 2 8 Try.underlying38 hi hz0 hz1 hz2 rfl h x 1 (flat stc [s])
    (Sl.src hs Try.underlying38 (flat_one stc stc_one [s])) (by omega) (by unfold maxLen; omega) (by omega)
  exact ⟨v', w', h1, by unfold OwnSt; rw [List.length_append, flat_append, ← hn]; exact h2, h3⟩
theorem StL.elem' {w : World} {a : Option Addr} {n cap : Nat} {l : List StI} (h : StL w (.slice a n cap) l) (k : Nat) (hk : k < l.length) : ∃ g off, a = some ⟨g, off, none⟩ ∧ w.cell? ⟨g, off + k * 2, none⟩ = some (.int .u32 (l[k].id : Int)) ∧ w.cell? ⟨g, off + k * 2 + 1, none⟩ = some (.int .u32 (l[k].tick : Int)) := by
  obtain ⟨a', cap', e, _⟩ := h.slice
  simp only [Value.slice.injEq] at e
  obtain ⟨rfl, rfl, rfl⟩ := e
  exact h.elem k hk
def kc11M : List Nat := [1, 2, 4, 12, 16, 48, 126, 128, 256, 896, 1920, 4094, 4096, 16383, 32767]
def kc11R (k a tn tc : Nat) (q : Int) (TH : List StI) (s : StI) (ath : Option Addr) : List ((Nat → Value) → World → Prop) := [
  fun val _ => val 0 = .agg (pv k a q),
  fun val _ => val 1 = .slice ath tn tc,
  fun val _ => val 2 = .slice ath tn tc,
  fun val _ => val 3 = .int .i64 (tn : Int),
  fun val _ => val 4 = .slice ath tn tc,
  fun val _ => val 5 = .int .i64 (tn : Int),
  fun val _ => val 6 = .slice ath tn tn,
  fun val _ => val 7 = .int .u32 (s.id : Int),
  fun val _ => val 8 = .int .u32 (s.tick : Int),
  fun val _ => val 9 = .agg (stv s),
  fun val W => ∃ z, (val 10) = z ∧ StL W z [s],
  fun val W => ∃ z, (val 11) = z ∧ StL W z (TH ++ [s]),
  fun val _ => val 12 = .int .u32 (s.tick : Int),
  fun val W => ∃ v, (val 13) = v ∧ StL W v (kept9 k a (TH ++ [s]) s.tick),
  fun val _ => val 14 = (val 13)]

set_option maxRecDepth 100000 in
set_option maxHeartbeats 8000000 in
theorem keepComes_any (k a : Nat) (q : Int) (v : Value) (l : List StI) (n o : Nat) (w : World) (hl : StL w v l) (hn : n ≤ 4294967295) (ho : o ≤ 4294967295) :
    Calls Try.prog 8 #[.agg (pv k a q), v, .agg #[.int .u32 (n : Int), .int .u32 (o : Int)]] w fun e w' => e = .returned (.bool true) ∧ Frm (fun _ => False) w w' := by
  obtain ⟨aa, cap, rfl, hc1, hc2⟩ := hl.slice
  unfold maxLen at hc2
  obtain ⟨s, hs1, hs2⟩ : ∃ s : StI, s.tick = n ∧ s.id = o := ⟨⟨o, n, ho, hn⟩, rfl, rfl⟩
  subst hs1 hs2
  have g0 : Frm (fun _ => False) w ((w.alloc (.cells (pv k a q) 27)).alloc (.cells #[.int .u32 (s.tick : Int), .int .u32 (s.id : Int)] 50)) := ((Frm.refl _ w).alloc _).alloc _
  have b0 : Blk ((w.alloc (.cells (pv k a q) 27)).alloc (.cells #[.int .u32 (s.tick : Int), .int .u32 (s.id : Int)] 50)) w.heap.size 27 (pv k a q) := (Blk.alloc w _ _).old _
  have b1 := Blk.atS w 27 50 (pv k a q) #[.int .u32 (s.tick : Int), .int .u32 (s.id : Int)]
  go_enter Try.func8, Try.ntmps8
  go_upto_region 1 with fail
  generalize ((w.alloc (.cells (pv k a q) 27)).alloc (.cells #[.int .u32 (s.tick : Int), .int .u32 (s.id : Int)] 50)) = w1 at *
  obtain ⟨A, hA⟩ : ∃ A, w.heap.size = A := ⟨_, rfl⟩
  rw [hA] at b0 b1 ⊢
  have HBP := Lib.hid b0
  have p0 : w1.cell? ⟨A + 1, 0, none⟩ = some (.int .u32 (s.tick : Int)) := b1.cell 0 rfl
  have p1 : w1.cell? ⟨A + 1, 1, none⟩ = some (.int .u32 (s.id : Int)) := b1.cell 1 rfl
  have HG := Lib.hid g0
  have HLL := Lib.hid hl
  clear b0 b1 hl g0 hA
  refine wp_region_canon (fun w' => w'.cell? ⟨A + 1, 0, none⟩ = some (.int .u32 (s.tick : Int)) ∧ w'.cell? ⟨A + 1, 1, none⟩ = some (.int .u32 (s.id : Int)) ∧ Frm (fun _ => False) w1 w') (by kernel_rfl) rfl (by kernel_rfl) (by kernel_rfl) (⟨p0, p1, (Frm.refl _ w1).drew⟩) ?_
  repeat' first
    | (refine CanonL.skip (by rfl) ?_; (try simp only [Act.put, List.setIfInBounds_toArray, List.set_cons_zero, List.set_cons_succ]))
    | (refine CanonL.val (v := ?_) (by rfl) ?_ ?_; rotate_left 1; (focus (intro w hSw; (try dsimp only at hSw); go_simp; (try (with_reducible rfl)); done)); (try simp only [Act.put, List.setIfInBounds_toArray, List.set_cons_zero, List.set_cons_succ]))
  refine CanonL.done ?_
  intro w9 hS9
  obtain ⟨_, _, ff⟩ := hS9
  by_cases hlen : 100 < l.length
  · have hli : (100 : Int) < (l.length : Int) := by omega
    have HW := Lib.hid awake9_any
    go_wp2_with fail
    refine (HW.out _).mono ?_
    rintro e w2 ⟨rfl, g1⟩
    go_wp2_with fail
    go_ret
    exact ⟨rfl, (HG.out.trans ff).trans g1⟩
  · have hli : ¬ (100 : Int) < (l.length : Int) := by omega
    have HBP2 := Lib.hid (HBP.out.keep ff (fun h => h))
    have HL2 := Lib.hid (HLL.out.keepF (HG.out.trans ff))
    have HG2 := Lib.hid (HG.out.trans ff)
    clear p0 p1 ff HBP HG HLL
    obtain ⟨P, hP⟩ : ∃ P : StI → Bool, P = fun t => decide (t.tick ≤ s.tick) := ⟨_, rfl⟩
    have HPP : Hid (∀ t, P t = decide (t.tick ≤ s.tick)) := Lib.hid (fun t => by rw [hP])
    clear hP
    go_upto_region 6 with fail
    go_loopw [9, 10] (fun u i wr => ∃ j : Nat, j ≤ l.length ∧ i = .int .i64 j ∧ OwnSt wr u ((l.take j).filter P) ∧ (∀ g, u.ownBlock = some g → w9.heap.size ≤ g) ∧ Frm (fun _ => False) w9 wr) (fun _ i _ => l.length - (intOf i).toNat)
    case atStart => exact ⟨0, Nat.zero_le _, rfl, OwnSt.nil_ _, fun g e => (by cases e), Frm.refl _ _⟩
    case round =>
      obtain ⟨j, hj, rfl, hO, hN, hF⟩ := hrel
      by_cases hlt : j < l.length
      · have hji : (j : Int) < (l.length : Int) := by omega
        have hj0 : (0 : Int) ≤ (j : Int) := by omega
        obtain ⟨g, off, rfl, e0, e1⟩ := (HL2.out.keepF hF).elem j hlt
        obtain ⟨t, ht⟩ : ∃ t, l[j] = t := ⟨_, rfl⟩
        have HTT : Hid ((l.take (j + 1)).filter P = (l.take j).filter P ++ (if P t = true then [t] else [])) := Lib.hid (by
          rw [List.take_succ_eq_append_getElem hlt, List.filter_append, ht]
          cases hc : P t <;> simp [hc])
        rw [ht] at e0 e1
        clear ht
        by_cases hle : t.tick ≤ s.tick
        · have hlei : (t.tick : Int) ≤ (s.tick : Int) := by omega
          have HT : Hid ((l.take (j + 1)).filter P = (l.take j).filter P ++ [t]) := Lib.hid (by rw [HTT.out, HPP.out, if_pos (decide_eq_true hle)])
          have g3 : Frm (fun _ => False) wr (wr.alloc (.cells (stv t) 24)) := (Frm.refl _ wr).alloc _
          obtain ⟨a4, c4, rfl, _, _⟩ := hO.sl.slice
          obtain ⟨v6, w6, hrun, hrow, hgr, hnew⟩ := append_sts _ _ _ _ [t] (hO.keep g3 (fun _ _ h => h)) (StL.one wr t) (by
            have h1 := List.length_filter_le P (l.take j)
            have h2 := List.length_take_le j l
            have h3 : ([t] : List StI).length = 1 := rfl
            omega)
          have HT6 := Lib.hid (show ∀ g, v6.ownBlock = some g → w9.heap.size ≤ g from fun g e => (hnew g e).elim (fun e => hN g e) (fun e => by have := g3.size; have := hF.size; omega))
          have HF6 := Lib.hid (show Frm (fun _ => False) w9 w6 from (hF.trans g3).grown hgr (fun k hk e => by have := hN k e; omega))
          have HO6 := Lib.hid hrow
          have Hrun := Lib.hid hrun
          clear hO hN hF g3 hrun hrow hgr hnew
          go_wp2_with (at_builtin; refine Lib.wpList_append_run _ rfl _ _ _ _ rfl _ _ rfl rfl _ _ Hrun.out ?_)
          go_roundw
          case rel => exact ⟨j + 1, by omega, by go_num, by rw [HT.out]; exact HO6.out, HT6.out, HF6.out⟩
          case measure => simp [intOf]; omega
        · have hlei : ¬ (t.tick : Int) ≤ (s.tick : Int) := by omega
          have HT : Hid ((l.take (j + 1)).filter P = (l.take j).filter P) := Lib.hid (by rw [HTT.out, HPP.out, decide_eq_false hle]; simp)
          have HO := Lib.hid hO
          have HN := Lib.hid hN
          have HF := Lib.hid hF
          clear hO hN hF
          go_wp2_with fail
          go_roundw
          case rel => exact ⟨j + 1, by omega, by go_num, by rw [HT.out]; exact HO.out, HN.out, HF.out⟩
          case measure => simp [intOf]; omega
      · obtain rfl : j = l.length := by omega
        rw [List.take_length] at hO
        obtain ⟨TH, hTH⟩ : ∃ TH, l.filter P = TH := ⟨_, rfl⟩
        have HTHle : Hid (∀ t ∈ TH, t.tick ≤ s.tick) := Lib.hid fun t ht => by
          rw [← hTH] at ht
          have := (List.mem_filter.1 ht).2
          rw [HPP.out] at this
          exact of_decide_eq_true this
        have htl : TH.length ≤ 100 := by rw [← hTH]; exact Nat.le_trans (List.length_filter_le _ _) (by omega)
        rw [hTH] at hO
        obtain ⟨ath, tc, rfl, ht1, ht2⟩ := hO.sl.slice
        unfold maxLen at ht2
        obtain ⟨tn, htn⟩ : ∃ tn, TH.length = tn := ⟨_, rfl⟩
        have b5 := HBP2.out.keep hF (fun h => h)
        have c0 := b5.cell 0 rfl
        have c1 := b5.cell 1 rfl
        have c2 := b5.cell 2 rfl
        have HK1 := Lib.hid (kept_any k a s.tick q _ TH wr hO.sl (by omega) s.ht)
        have HBP5 := Lib.hid b5
        have HO5 := Lib.hid hO
        have HG5 := Lib.hid (HG2.out.trans hF)
        have HTN := Lib.hid htn
        have HTL100 := Lib.hid htl
        rw [htn] at ht1 HK1 ⊢
        clear hO hN hF b5 hTH HBP2 HL2 HG2 htn
        go_wp2_with fail
        refine HK1.out.mono ?_
        rintro e w3 ⟨v3, rfl, o3, _, g3⟩
        obtain ⟨WAS, hWAS⟩ : ∃ WAS, kept9 k a TH s.tick = WAS := ⟨_, rfl⟩
        have HWAS := Lib.hid hWAS
        rw [hWAS] at o3
        obtain ⟨a3, c3, rfl, hf1, hf2⟩ := o3.sl.slice
        unfold maxLen at hf2
        have hwl : WAS.length ≤ 100 := by rw [← hWAS]; exact Nat.le_trans (List.length_filter_le _ _) HTL100.out
        have HP : Hid (∀ W, Frm (fun _ => False) w3 W → Blk W A 27 (pv k a q)) := Lib.hid fun W gg => HBP5.out.keep (g3.trans gg) (fun h => h)
        have HTC := Lib.hid ht1
        have HTCm := Lib.hid ht2
        have HOT : Hid (∀ W, Frm (fun _ => False) w3 W → Row W 2 (.slice ath tn tn) tn (flat stc TH)) := Lib.hid fun W gg => by
          have h := HO5.out.keep (g3.trans gg) (fun _ _ h => h)
          unfold OwnSt at h
          rw [HTN.out] at h
          have h := Row.take h tn tn (Nat.le_refl _) (Nat.le_refl _) HTC.out
          rw [List.take_of_length_le (by rw [flat_len stc stc_len, HTN.out]; exact Nat.le_refl _)] at h
          exact h
        have HTL : Hid (TH.length ≤ 1000) := Lib.hid (by have := HTL100.out; omega)
        have HTL2 : Hid ((TH ++ [s]).length ≤ 1000000) := Lib.hid (by have := HTL100.out; simp; omega)
        have HTK := Lib.hid s.ht
        have HTN2 : Hid (tn = TH.length) := Lib.hid HTN.out.symm
        have HO3 := Lib.hid o3.sl
        have HG3 := Lib.hid (HG5.out.trans g3)
        have HTA : Hid (∀ x, ath = some x → ∃ g, x = ⟨g, 0, none⟩) := Lib.hid fun x hx => by
          have h := HO5.out
          unfold OwnSt at h
          rcases h.2 with ⟨e, _⟩ | ⟨g, c, e, _⟩
          · simp only [Value.slice.injEq] at e; rw [e.1] at hx; cases hx
          · simp only [Value.slice.injEq] at e; rw [e.1] at hx; exact ⟨g, (Option.some.inj hx).symm⟩
        clear c0 c1 c2 o3 g3 hWAS HK1 HBP5 HG5 ht1 ht2
        go_upto_region 11 with fail
        rename_i hK
        have D : Frm (fun _ => False) w3 w3.drew := (Frm.refl _ _).drew
        refine wp_region_late 15 0 [] [[], [], [], [2], [], [4], [1, 3, 5], [], [], [7, 8], [9], [6, 10], [], [0, 11, 12], [13]] kc11M (kc11R k a tn tc q TH s ath) (by kernel_rfl) rfl rfl rfl (by kernel_rfl) (by kernel_rfl) (by kernel_rfl) (by kernel_rfl) rfl (by kernel_rfl) (by kernel_rfl) (by kernel_rfl) (by kernel_rfl) (fun val => ?_) ?_
        · try dsimp only
          refine RelO.next (k' := 1) rfl (fun W gW hF => ?_) ?_
          focus
            have z0 := (HP.out W (D.trans gW)).cell 0 rfl
            have z1 := (HP.out W (D.trans gW)).cell 1 rfl
            have z2 := (HP.out W (D.trans gW)).cell 2 rfl
            exact OpOK.val (u := .agg (pv k a q)) (by rfl) (by first | (go_simp; done) | (go_simp; with_reducible rfl) | (go_simp; rfl)) (fun W' _ => rfl)
          try simp only [Act.put, List.setIfInBounds_toArray, List.set_cons_zero, List.set_cons_succ]
          refine RelO.next (k' := 2) rfl (fun W gW hF => ?_) ?_
          focus
            refine OpOK.val (u := .slice ath tn tc) (by rfl) ?_ (fun W' _ => rfl)
            try simp only [tupAt]
            first | (go_simp; done) | (go_simp; with_reducible rfl) | (go_simp; rfl)
          try simp only [Act.put, List.setIfInBounds_toArray, List.set_cons_zero, List.set_cons_succ]
          refine RelO.next (k' := 3) rfl (fun W gW hF => ?_) ?_
          focus
            refine OpOK.val (u := .slice ath tn tc) (by rfl) ?_ (fun W' _ => rfl)
            try simp only [tupAt]
            first | (go_simp; done) | (go_simp; with_reducible rfl) | (go_simp; rfl)
          try simp only [Act.put, List.setIfInBounds_toArray, List.set_cons_zero, List.set_cons_succ]
          refine RelO.next (k' := 4) rfl (fun W gW hF => ?_) ?_
          focus
            obtain ⟨h2, _⟩ := hF
            have e2 : val 2 = .slice ath tn tc := h2 _ (Frm.refl _ W)
            try simp only [e2]
            try simp only [tupAt]
            refine OpOK.val (u := .int .i64 (tn : Int)) (by rfl) ?_ (fun W' _ => rfl)
            try simp only [e2]
            try simp only [tupAt]
            first | (go_simp; done) | (go_simp; with_reducible rfl) | (go_simp; rfl)
          try simp only [Act.put, List.setIfInBounds_toArray, List.set_cons_zero, List.set_cons_succ]
          refine RelO.next (k' := 5) rfl (fun W gW hF => ?_) ?_
          focus
            refine OpOK.val (u := .slice ath tn tc) (by rfl) ?_ (fun W' _ => rfl)
            try simp only [tupAt]
            first | (go_simp; done) | (go_simp; with_reducible rfl) | (go_simp; rfl)
          try simp only [Act.put, List.setIfInBounds_toArray, List.set_cons_zero, List.set_cons_succ]
          refine RelO.next (k' := 6) rfl (fun W gW hF => ?_) ?_
          focus
            obtain ⟨h4, _⟩ := hF
            have e4 : val 4 = .slice ath tn tc := h4 _ (Frm.refl _ W)
            try simp only [e4]
            try simp only [tupAt]
            refine OpOK.val (u := .int .i64 (tn : Int)) (by rfl) ?_ (fun W' _ => rfl)
            try simp only [e4]
            try simp only [tupAt]
            first | (go_simp; done) | (go_simp; with_reducible rfl) | (go_simp; rfl)
          try simp only [Act.put, List.setIfInBounds_toArray, List.set_cons_zero, List.set_cons_succ]
          refine RelO.next (k' := 7) rfl (fun W gW hF => ?_) ?_
          focus
            obtain ⟨h1, h3, h5, _⟩ := hF
            have e1 : val 1 = .slice ath tn tc := h1 _ (Frm.refl _ W)
            have e3 : val 3 = .int .i64 (tn : Int) := h3 _ (Frm.refl _ W)
            have e5 : val 5 = .int .i64 (tn : Int) := h5 _ (Frm.refl _ W)
            try simp only [e5]
            try simp only [e3]
            try simp only [e1]
            try simp only [tupAt]
            have e := run_full W ath tn tc HTC.out HTA.out
            exact OpOK.val (u := .slice ath tn tn) (by rfl) (by first | (go_simp; done) | (go_simp; with_reducible rfl) | (go_simp; rfl)) (fun W' _ => rfl)
          try simp only [Act.put, List.setIfInBounds_toArray, List.set_cons_zero, List.set_cons_succ]
          refine RelO.next (k' := 8) rfl (fun W gW hF => ?_) ?_
          focus
            refine OpOK.val (u := .int .u32 (s.id : Int)) (by rfl) ?_ (fun W' _ => rfl)
            try simp only [tupAt]
            first | (go_simp; done) | (go_simp; with_reducible rfl) | (go_simp; rfl)
          try simp only [Act.put, List.setIfInBounds_toArray, List.set_cons_zero, List.set_cons_succ]
          refine RelO.next (k' := 9) rfl (fun W gW hF => ?_) ?_
          focus
            refine OpOK.val (u := .int .u32 (s.tick : Int)) (by rfl) ?_ (fun W' _ => rfl)
            try simp only [tupAt]
            first | (go_simp; done) | (go_simp; with_reducible rfl) | (go_simp; rfl)
          try simp only [Act.put, List.setIfInBounds_toArray, List.set_cons_zero, List.set_cons_succ]
          refine RelO.next (k' := 10) rfl (fun W gW hF => ?_) ?_
          focus
            obtain ⟨h7, h8, _⟩ := hF
            have e7 : val 7 = .int .u32 (s.id : Int) := h7 _ (Frm.refl _ W)
            have e8 : val 8 = .int .u32 (s.tick : Int) := h8 _ (Frm.refl _ W)
            try simp only [e8]
            try simp only [e7]
            try simp only [tupAt]
            refine OpOK.val (u := .agg (stv s)) (by rfl) ?_ (fun W' _ => rfl)
            try simp only [e8]
            try simp only [e7]
            try simp only [tupAt]
            first | (go_simp; done) | (go_simp; with_reducible rfl) | (go_simp; rfl)
          try simp only [Act.put, List.setIfInBounds_toArray, List.set_cons_zero, List.set_cons_succ]
          refine RelO.next (k' := 11) rfl (fun W gW hF => ?_) ?_
          focus
            obtain ⟨h9, _⟩ := hF
            have e9 : val 9 = .agg (stv s) := h9 _ (Frm.refl _ W)
            try simp only [e9]
            try simp only [tupAt]
            refine OpOK.made (W' := W.alloc (.cells (stv s) 24)) (u := .slice (some ⟨W.heap.size, 0, none⟩) 1 1) (by rfl) ?_ ((Frm.refl _ W).alloc _) (fun W2 g2 => ⟨_, rfl, (StL.one W s).keepF g2⟩)
            first | (go_simp; done) | (go_simp; with_reducible rfl) | (go_simp; rfl)
          try simp only [Act.put, List.setIfInBounds_toArray, List.set_cons_zero, List.set_cons_succ]
          refine RelO.next (k' := 12) rfl (fun W gW hF => ?_) ?_
          focus
            obtain ⟨h6, h10, _⟩ := hF
            have e6 : val 6 = .slice ath tn tn := h6 _ (Frm.refl _ W)
            have q10 : ∃ z, (val 10) = z ∧ StL W z [s] := h10 _ (Frm.refl _ W)
            obtain ⟨x56, e10, o56⟩ := q10
            try simp only [e10]
            try simp only [e6]
            try simp only [tupAt]
            obtain ⟨v', w', hrun, hrow, g1⟩ := append_fullS W ath tn x56 TH s (HOT.out W (D.trans gW)) HTN2.out o56 HTL.out
            refine OpOK.made (W' := w') (u := v') (by rfl) ?_ g1 (fun W2 g2 => ⟨v', rfl, hrow.sl.keepF g2⟩)
            exact exec_append _ _ _ _ rfl _ _ rfl rfl _ _ hrun
          try simp only [Act.put, List.setIfInBounds_toArray, List.set_cons_zero, List.set_cons_succ]
          refine RelO.next (k' := 13) rfl (fun W gW hF => ?_) ?_
          focus
            refine OpOK.val (u := .int .u32 (s.tick : Int)) (by rfl) ?_ (fun W' _ => rfl)
            try simp only [tupAt]
            first | (go_simp; done) | (go_simp; with_reducible rfl) | (go_simp; rfl)
          try simp only [Act.put, List.setIfInBounds_toArray, List.set_cons_zero, List.set_cons_succ]
          refine RelO.next (k' := 14) rfl (fun W gW hF => ?_) ?_
          focus
            obtain ⟨h0, h11, h12, _⟩ := hF
            have e0 : val 0 = .agg (pv k a q) := h0 _ (Frm.refl _ W)
            have q11 : ∃ z, (val 11) = z ∧ StL W z (TH ++ [s]) := h11 _ (Frm.refl _ W)
            obtain ⟨x57, e11, o57⟩ := q11
            have e12 : val 12 = .int .u32 (s.tick : Int) := h12 _ (Frm.refl _ W)
            try simp only [e12]
            try simp only [e11]
            try simp only [e0]
            try simp only [tupAt]
            refine OpOK.call (by rfl) ?_ ((kept_any k a s.tick q _ (TH ++ [s]) W o57 HTL2.out HTK.out).mono ?_)
            · first | (go_simp; done) | (go_simp; with_reducible rfl) | (go_simp; rfl)
            · rintro e W1 ⟨v', rfl, h1, _, g1⟩
              exact ⟨_, rfl, g1, fun W2 g2 => ⟨v', rfl, h1.sl.keepF g2⟩⟩
          try simp only [Act.put, List.setIfInBounds_toArray, List.set_cons_zero, List.set_cons_succ]
          refine RelO.next (k' := 15) rfl (fun W gW hF => ?_) ?_
          focus
            obtain ⟨h13, _⟩ := hF
            have q13 : ∃ v, (val 13) = v ∧ StL W v (kept9 k a (TH ++ [s]) s.tick) := h13 _ (Frm.refl _ W)
            obtain ⟨v59, e13, o59⟩ := q13
            try simp only [e13]
            try simp only [tupAt]
            refine OpOK.val (u := (val 13)) (by rfl) ?_ (fun W' _ => rfl)
            try simp only [e13]
            try simp only [tupAt]
            first | (go_simp; done) | (go_simp; with_reducible rfl) | (go_simp; rfl)
          try simp only [Act.put, List.setIfInBounds_toArray, List.set_cons_zero, List.set_cons_succ]
          exact RelO.nil
        intro val w4 gW hF
        obtain ⟨h0, h1, h2, h3, h4, h5, h6, h7, h8, h9, h10, h11, h12, h13, h14, hT⟩ := hF
        have e0 : val 0 = .agg (pv k a q) := h0 _ (Frm.refl _ w4)
        have e1 : val 1 = .slice ath tn tc := h1 _ (Frm.refl _ w4)
        have e2 : val 2 = .slice ath tn tc := h2 _ (Frm.refl _ w4)
        have e3 : val 3 = .int .i64 (tn : Int) := h3 _ (Frm.refl _ w4)
        have e4 : val 4 = .slice ath tn tc := h4 _ (Frm.refl _ w4)
        have e5 : val 5 = .int .i64 (tn : Int) := h5 _ (Frm.refl _ w4)
        have e6 : val 6 = .slice ath tn tn := h6 _ (Frm.refl _ w4)
        have e7 : val 7 = .int .u32 (s.id : Int) := h7 _ (Frm.refl _ w4)
        have e8 : val 8 = .int .u32 (s.tick : Int) := h8 _ (Frm.refl _ w4)
        have e9 : val 9 = .agg (stv s) := h9 _ (Frm.refl _ w4)
        have q10 : ∃ z, (val 10) = z ∧ StL w4 z [s] := h10 _ (Frm.refl _ w4)
        obtain ⟨x56, e10, o56⟩ := q10
        have q11 : ∃ z, (val 11) = z ∧ StL w4 z (TH ++ [s]) := h11 _ (Frm.refl _ w4)
        obtain ⟨x57, e11, o57⟩ := q11
        have e12 : val 12 = .int .u32 (s.tick : Int) := h12 _ (Frm.refl _ w4)
        have q13 : ∃ v, (val 13) = v ∧ StL w4 v (kept9 k a (TH ++ [s]) s.tick) := h13 _ (Frm.refl _ w4)
        obtain ⟨v59, e13, o59⟩ := q13
        have e14 : val 14 = (val 13) := h14 _ (Frm.refl _ w4)
        clear hT h0 h1 h2 h3 h4 h5 h6 h7 h8 h9 h10 h11 h12 h13 h14
        simp only [aO, Act.put, List.setIfInBounds_toArray, List.set_cons_zero, List.set_cons_succ, Nat.reduceAdd]
        try simp only [e14]
        try simp only [e13]
        try simp only [e12]
        try simp only [e11]
        try simp only [e10]
        try simp only [e9]
        try simp only [e8]
        try simp only [e7]
        try simp only [e6]
        try simp only [e5]
        try simp only [e4]
        try simp only [e3]
        try simp only [e2]
        try simp only [e1]
        try simp only [e0]
        try simp only [tupAt]
        refine wpTail.doneN ?_
        refine hK _ _ ?_
        have G4 := D.trans gW
        rw [kept9_comes k a TH s HTHle.out, HWAS.out] at o59
        obtain ⟨a9, c9, rfl, hi1, hi2⟩ := o59.slice
        unfold maxLen at hi2
        have hwm : (WAS ++ [s]).length = WAS.length + 1 := by simp
        have HO9 := Lib.hid o59
        have HO33 := Lib.hid (HO3.out.keepF G4)
        have HG9 := Lib.hid (HG3.out.trans G4)
        rw [hwm] at hi1 ⊢
        have HWM := Lib.hid hwm
        clear gW D hK G4 o56 o57 o59 HP HOT HO3 HG3 hwm e0 e1 e2 e3 e4 e5 e6 e7 e8 e9 e10 e11 e12 e13 e14
        go_wp2_with fail
        go_loopw [13] (fun i wr => ∃ j : Nat, j ≤ WAS.length ∧ i = .int .i64 j ∧ Frm (fun _ => False) w4 wr) (fun i _ => WAS.length - (intOf i).toNat)
        case atStart => exact ⟨0, Nat.zero_le _, rfl, Frm.refl _ _⟩
        case round =>
          obtain ⟨j, hj, rfl, hF⟩ := hrel
          by_cases hlj : j < WAS.length
          · have hji : (j : Int) < (WAS.length : Int) := by omega
            have hj0 : (0 : Int) ≤ (j : Int) := by omega
            have hjm : (j : Int) < (WAS.length : Int) + 1 := by omega
            obtain ⟨t, ht⟩ : ∃ t, WAS[j] = t := ⟨_, rfl⟩
            have ht2 : (WAS ++ [s])[j]'(by rw [HWM.out]; omega) = t := by rw [List.getElem_append_left hlj]; exact ht
            obtain ⟨g5, o5, ha5, k0, k1⟩ := (HO33.out.keepF hF).elem j hlj
            have hO9 := HO9.out.keepF hF
            obtain ⟨g6, o6, ha6, l0, l1⟩ := StL.elem' hO9 j (by rw [HWM.out]; omega)
            subst ha5 ha6
            rw [ht] at k0 k1
            rw [ht2] at l0 l1
            have hQ : ∀ W, (Op.equalIn 10000 24 (.agg (stv t)) (.agg (stv t))).run Try.prog W = .ok true W := fun W => by rw [run_eq_st]; simp
            clear ht ht2 hO9
            go_upto_region 17 with fail
            refine wp_region_canon (fun w' => w'.cell? ⟨g5, o5 + j * 2, none⟩ = some (.int .u32 (t.id : Int)) ∧ w'.cell? ⟨g5, o5 + j * 2 + 1, none⟩ = some (.int .u32 (t.tick : Int)) ∧ w'.cell? ⟨g6, o6 + j * 2, none⟩ = some (.int .u32 (t.id : Int)) ∧ w'.cell? ⟨g6, o6 + j * 2 + 1, none⟩ = some (.int .u32 (t.tick : Int)) ∧ Frm (fun _ => False) w4 w') (by kernel_rfl) rfl (by kernel_rfl) (by kernel_rfl) (⟨k0, k1, l0, l1, hF.drew⟩) ?_
            repeat' first
              | (refine CanonL.skip (by rfl) ?_; (try simp only [Act.put, List.setIfInBounds_toArray, List.set_cons_zero, List.set_cons_succ]))
              | (refine CanonL.val (v := ?_) (by rfl) ?_ ?_; rotate_left 1; (focus (intro w hSw; (try dsimp only at hSw); go_simp; (try (with_reducible rfl)); done)); (try simp only [Act.put, List.setIfInBounds_toArray, List.set_cons_zero, List.set_cons_succ]))
            refine CanonL.done ?_
            intro w9 hS9
            obtain ⟨_, _, _, _, f9⟩ := hS9
            have HFF := Lib.hid f9
            clear f9 hF k0 k1 l0 l1 hQ
            go_wp2_with fail
            go_roundw
            case rel => exact ⟨j + 1, by omega, by go_num, HFF.out⟩
            case measure => simp [intOf]; omega
          · obtain rfl : j = WAS.length := by omega
            have hjm : (WAS.length : Int) < (WAS.length : Int) + 1 := by omega
            have hj0 : (0 : Int) ≤ (WAS.length : Int) := by omega
            have hO9 := HO9.out.keepF hF
            obtain ⟨g6, o6, ha6, l0, l1⟩ := StL.elem' hO9 WAS.length (by rw [HWM.out]; omega)
            subst ha6
            rw [List.getElem_concat_length rfl] at l0 l1
            have hQ : ∀ W, (Op.equalIn 10000 24 (.agg (stv s)) (.agg (stv s))).run Try.prog W = .ok true W := fun W => by rw [run_eq_st]; simp
            have HW := Lib.hid awake9_any
            have HFF := Lib.hid hF
            clear hO9 hF
            go_wp2_with fail
            refine (HW.out _).mono ?_
            rintro e w6 ⟨rfl, g6⟩
            go_wp2_with fail
            go_ret
            exact ⟨rfl, (HG9.out.trans HFF.out).trans g6⟩
end Go.Proofs.Ytbmlfhiffooilaa
