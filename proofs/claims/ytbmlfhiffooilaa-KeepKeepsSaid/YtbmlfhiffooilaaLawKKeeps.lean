/- KeepKeeps answers true: of any policy, any versions, any tick. No condition. -/
import Derived.Test.YtbmlfhiffooilaaKpK
namespace Go.Proofs.Ytbmlfhiffooilaa
open Go.RowKit Go.Shelf

theorem filter_at {α : Type} (p : α → Bool) (l : List α) (j : Nat) (h : j < l.length) (hp : p l[j] = true) : (l.filter p)[((l.take j).filter p).length]? = some l[j] := by
  have e : l.filter p = (l.take j).filter p ++ l[j] :: (l.drop (j + 1)).filter p := by
    conv => lhs; rw [← List.take_append_drop j l, List.drop_eq_getElem_cons h]
    rw [List.filter_append, List.filter_cons, if_pos hp]
  rw [e, List.getElem?_append_right (Nat.le_refl _), Nat.sub_self]
  rfl
theorem filter_le {α : Type} (p : α → Bool) (l : List α) (j : Nat) : ((l.take j).filter p).length ≤ (l.filter p).length := by
  have e : l.filter p = (l.take j).filter p ++ (l.drop j).filter p := by rw [← List.filter_append, List.take_append_drop]
  rw [e, List.length_append]; omega
def kk4M : List Nat := [1, 2, 6, 8, 31, 63]
def kk4R (k a now cap : Nat) (q : Int) (l : List StI) (aa : Option Addr) : List ((Nat → Value) → World → Prop) := [
  fun val _ => val 0 = .agg (pv k a q),
  fun val _ => val 1 = .slice aa l.length cap,
  fun val W => ∃ v, (val 2) = v ∧ StL W v l,
  fun val _ => val 3 = .int .u32 (now : Int),
  fun val W => ∃ v, (val 4) = v ∧ BlL W v (keep9 k a l now),
  fun val _ => val 5 = (val 4)]

set_option maxRecDepth 100000 in
set_option maxHeartbeats 8000000 in
theorem keepKeeps_any (k a : Nat) (q : Int) (v : Value) (l : List StI) (now : Nat) (w : World) (hl : StL w v l) (hnow : now ≤ 4294967295) :
    Calls Try.prog 4 #[.agg (pv k a q), v, .int .u32 (now : Int)] w fun e w' => e = .returned (.bool true) ∧ Frm (fun _ => False) w w' := by
  obtain ⟨aa, cap, rfl, hc1, hc2⟩ := hl.slice
  unfold maxLen at hc2
  have g0 : Frm (fun _ => False) w (w.alloc (.cells (pv k a q) 27)) := (Frm.refl _ w).alloc _
  by_cases hlen : 200 < l.length
  · have hli : (200 : Int) < (l.length : Int) := by omega
    go_enter Try.func4, Try.ntmps4
    go_wp2_with fail
    refine (awake9_any _).mono ?_
    rintro e w1 ⟨rfl, g1⟩
    go_wp2_with fail
    go_ret
    exact ⟨rfl, g0.trans g1⟩
  · have hli : ¬ (200 : Int) < (l.length : Int) := by omega
    have b0 : Blk (w.alloc (.cells (pv k a q) 27)) w.heap.size 27 (pv k a q) := Blk.alloc w _ _
    have c0 := b0.cell 0 rfl
    have c1 := b0.cell 1 rfl
    have c2 := b0.cell 2 rfl
    have HK1 := Lib.hid (keep_any k a now q _ l _ (hl.keepF g0) (by omega) hnow)
    go_enter Try.func4, Try.ntmps4
    go_wp2_with fail
    refine HK1.out.mono ?_
    rintro e w2 ⟨b, rfl, hb1, hb2, g2⟩
    have hkl : (keep9 k a l now).length = l.length := by simp [keep9]
    rw [hkl]
    have HKL := Lib.hid hkl
    have HB2 := Lib.hid hb2
    have HLEN := Lib.hid (show l.length ≤ 1000 by omega)
    have HNOW := Lib.hid hnow
    have HG2 := Lib.hid (g0.trans g2)
    have HLL := Lib.hid hl
    have HP : Hid (∀ W, Frm (fun _ => False) w2 W → Blk W w.heap.size 27 (pv k a q)) := Lib.hid fun W gg => (b0.keep g2 (fun h => h)).keep gg (fun h => h)
    have HL : Hid (∀ W, Frm (fun _ => False) w2 W → StL W (.slice aa l.length cap) l) := Lib.hid fun W gg => hl.keepF ((g0.trans g2).trans gg)
    obtain ⟨A, hA⟩ : ∃ A, w.heap.size = A := ⟨_, rfl⟩
    rw [hA] at HP
    have HAA := Lib.hid hA
    go_upto_region 4 with fail
    rename_i hK
    first | rw [hA] | skip
    clear c0 c1 c2 b0 HK1 hb1 hb2 g2 hkl hl hA
    have D : Frm (fun _ => False) w2 w2.drew := (Frm.refl _ _).drew
    refine wp_region_late 6 0 [] [[], [], [1], [], [0, 2, 3], [4]] kk4M (kk4R k a now cap q l aa) (by kernel_rfl) rfl rfl rfl (by kernel_rfl) (by kernel_rfl) (by kernel_rfl) (by kernel_rfl) rfl (by kernel_rfl) (by kernel_rfl) (by kernel_rfl) (by kernel_rfl) (fun val => ?_) ?_
    · try dsimp only
      refine RelO.next (k' := 1) rfl (fun W gW hF => ?_) ?_
      focus
        have z0 := (HP.out W (D.trans gW)).cell 0 rfl
        have z1 := (HP.out W (D.trans gW)).cell 1 rfl
        have z2 := (HP.out W (D.trans gW)).cell 2 rfl
        exact OpOK.val (u := .agg (pv k a q)) (by rfl) (by first | (go_simp; done) | (go_simp; with_reducible rfl) | (go_simp; rfl)) (fun W' _ => rfl)
      try simp only [Act.put, List.setIfInBounds_toArray, List.set_cons_zero, List.set_cons_succ]
      refine RelO.next (k' := 2) rfl (fun W gW hF => ?_) ?_
      focus
        refine OpOK.val (u := .slice aa l.length cap) (by rfl) ?_ (fun W' _ => rfl)
        try simp only [tupAt]
        first | (go_simp; done) | (go_simp; with_reducible rfl) | (go_simp; rfl)
      try simp only [Act.put, List.setIfInBounds_toArray, List.set_cons_zero, List.set_cons_succ]
      refine RelO.next (k' := 3) rfl (fun W gW hF => ?_) ?_
      focus
        obtain ⟨h1, _⟩ := hF
        have e1 : val 1 = .slice aa l.length cap := h1 _ (Frm.refl _ W)
        try simp only [e1]
        try simp only [tupAt]
        refine OpOK.call (by rfl) ?_ ((theirs_any _ l W (HL.out W (D.trans gW)) HLEN.out).mono ?_)
        · first | (go_simp; done) | (go_simp; with_reducible rfl) | (go_simp; rfl)
        · rintro e W1 ⟨v', rfl, h1, _, g1⟩
          exact ⟨_, rfl, g1, fun W2 g2 => ⟨v', rfl, h1.sl.keepF g2⟩⟩
      try simp only [Act.put, List.setIfInBounds_toArray, List.set_cons_zero, List.set_cons_succ]
      refine RelO.next (k' := 4) rfl (fun W gW hF => ?_) ?_
      focus
        refine OpOK.val (u := .int .u32 (now : Int)) (by rfl) ?_ (fun W' _ => rfl)
        try simp only [tupAt]
        first | (go_simp; done) | (go_simp; with_reducible rfl) | (go_simp; rfl)
      try simp only [Act.put, List.setIfInBounds_toArray, List.set_cons_zero, List.set_cons_succ]
      refine RelO.next (k' := 5) rfl (fun W gW hF => ?_) ?_
      focus
        obtain ⟨h0, h2, h3, _⟩ := hF
        have e0 : val 0 = .agg (pv k a q) := h0 _ (Frm.refl _ W)
        have q2 : ∃ v, (val 2) = v ∧ StL W v l := h2 _ (Frm.refl _ W)
        obtain ⟨v22, e2, o22⟩ := q2
        have e3 : val 3 = .int .u32 (now : Int) := h3 _ (Frm.refl _ W)
        try simp only [e3]
        try simp only [e2]
        try simp only [e0]
        try simp only [tupAt]
        refine OpOK.call (by rfl) ?_ ((rkeep_any k a now q v22 l W o22 HLEN.out HNOW.out).mono ?_)
        · first | (go_simp; done) | (go_simp; with_reducible rfl) | (go_simp; rfl)
        · rintro e W1 ⟨v', rfl, h1, g1⟩
          exact ⟨_, rfl, g1, fun W2 g2 => ⟨v', rfl, h1.keepF g2⟩⟩
      try simp only [Act.put, List.setIfInBounds_toArray, List.set_cons_zero, List.set_cons_succ]
      refine RelO.next (k' := 6) rfl (fun W gW hF => ?_) ?_
      focus
        obtain ⟨h4, _⟩ := hF
        have q4 : ∃ v, (val 4) = v ∧ BlL W v (keep9 k a l now) := h4 _ (Frm.refl _ W)
        obtain ⟨v24, e4, o24⟩ := q4
        try simp only [e4]
        try simp only [tupAt]
        refine OpOK.val (u := (val 4)) (by rfl) ?_ (fun W' _ => rfl)
        try simp only [e4]
        try simp only [tupAt]
        first | (go_simp; done) | (go_simp; with_reducible rfl) | (go_simp; rfl)
      try simp only [Act.put, List.setIfInBounds_toArray, List.set_cons_zero, List.set_cons_succ]
      exact RelO.nil
    intro val w4 gW hF
    obtain ⟨h0, h1, h2, h3, h4, h5, hT⟩ := hF
    have e0 : val 0 = .agg (pv k a q) := h0 _ (Frm.refl _ w4)
    have e1 : val 1 = .slice aa l.length cap := h1 _ (Frm.refl _ w4)
    have q2 : ∃ v, (val 2) = v ∧ StL w4 v l := h2 _ (Frm.refl _ w4)
    obtain ⟨v22, e2, o22⟩ := q2
    have e3 : val 3 = .int .u32 (now : Int) := h3 _ (Frm.refl _ w4)
    have q4 : ∃ v, (val 4) = v ∧ BlL w4 v (keep9 k a l now) := h4 _ (Frm.refl _ w4)
    obtain ⟨v24, e4, o24⟩ := q4
    have e5 : val 5 = (val 4) := h5 _ (Frm.refl _ w4)
    clear hT h0 h1 h2 h3 h4 h5
    simp only [aO, Act.put, List.setIfInBounds_toArray, List.set_cons_zero, List.set_cons_succ, Nat.reduceAdd]
    try simp only [e5]
    try simp only [e4]
    try simp only [e3]
    try simp only [e2]
    try simp only [e1]
    try simp only [e0]
    try simp only [tupAt]
    refine wpTail.doneN ?_
    refine hK _ _ ?_
    have G4 := D.trans gW
    have HK3 := Lib.hid (kept_any k a now q _ l w4 (HL.out w4 G4) (by have := HLEN.out; omega) HNOW.out)
    have p0 := (HP.out w4 G4).cell 0 rfl
    have p1 := (HP.out w4 G4).cell 1 rfl
    have p2 := (HP.out w4 G4).cell 2 rfl
    obtain ⟨a24, c24, rfl, hd1, hd2⟩ := o24.slice
    unfold maxLen at hd2
    rw [HKL.out] at hd1 ⊢
    have HO24 := Lib.hid o24
    have HG4 := Lib.hid G4
    clear gW D hK G4 o22 o24 e0 e1 e2 e3 e4 e5
    go_wp2_with fail
    refine HK3.out.mono ?_
    rintro e w5 ⟨v5, rfl, o5, _, g5⟩
    obtain ⟨a5, c5, rfl, hf1, hf2⟩ := o5.sl.slice
    unfold maxLen at hf2
    have HO5 := Lib.hid o5.sl
    have hkk : (kept9 k a l now).length ≤ l.length := List.length_filter_le _ _
    have HG5 := Lib.hid g5
    have HB5 := Lib.hid ((HB2.out.keep HG4.out (fun h => h)).keep g5 (fun h => h))
    have HO24' := Lib.hid (HO24.out.keepF g5)
    have HL5 : Hid (StL w5 (.slice aa l.length cap) l) := Lib.hid (HL.out w5 (HG4.out.trans g5))
    have HG0 := Lib.hid ((HG2.out.trans HG4.out).trans g5)
    clear p0 p1 p2 HK3 o5 g5 HP HL HB2 HO24 HG2 HG4 HG5
    go_wp2_with fail
    go_loopw [10, 11] (fun c i wr => ∃ j : Nat, j ≤ l.length ∧ i = .int .i64 j ∧ c = .int .i64 ((((l.take j).filter (one9 k a l now)).length : Nat) : Int) ∧ Frm (fun _ => False) w5 wr) (fun _ i _ => l.length - (intOf i).toNat)
    case atStart => exact ⟨0, Nat.zero_le _, rfl, rfl, Frm.refl _ _⟩
    case round =>
      obtain ⟨j, hj, rfl, rfl, hF⟩ := hrel
      have hcl := filter_le (one9 k a l now) l j
      have hcj : ((l.take j).filter (one9 k a l now)).length ≤ l.length := Nat.le_trans hcl hkk
      obtain ⟨c, hc⟩ : ∃ c, ((l.take j).filter (one9 k a l now)).length = c := ⟨_, rfl⟩
      have HC := Lib.hid hc
      rw [hc] at hcl hcj ⊢
      clear hc
      by_cases hlt : j < l.length
      · have hji : (j : Int) < (l.length : Int) := by omega
        have hj0 : (0 : Int) ≤ (j : Int) := by omega
        obtain ⟨s, hs⟩ : ∃ s, l[j] = s := ⟨_, rfl⟩
        have hkj : (keep9 k a l now)[j]'(by rw [HKL.out]; exact hlt) = one9 k a l now s := by simp [keep9, hs]
        have hjk : j < (keep9 k a l now).length := by rw [HKL.out]; exact hlt
        have cb := bls_cell (HB5.out.keep hF (fun h => h)) j hjk
        obtain ⟨g24, o24, ha24, cw⟩ := (HO24'.out.keepF hF).at j hjk
        subst ha24
        rw [hkj] at cb cw
        obtain ⟨p, hp⟩ : ∃ p, one9 k a l now s = p := ⟨_, rfl⟩
        rw [hp] at cb cw
        have HS := Lib.hid hs
        have HPP := Lib.hid hp
        have HT : Hid ((l.take (j + 1)).filter (one9 k a l now) = (l.take j).filter (one9 k a l now) ++ (if p = true then [s] else [])) := Lib.hid (by
          rw [List.take_succ_eq_append_getElem hlt, List.filter_append, hs]
          cases hc : p
          · rw [hc] at hp; simp [hp]
          · rw [hc] at hp; simp [hp])
        clear hkj hp hs
        go_upto_region 12 with fail
        refine wp_region_canon (fun w' => w'.cell? ⟨b, j, none⟩ = some (.bool p) ∧ w'.cell? ⟨g24, o24 + j, none⟩ = some (.bool p) ∧ Frm (fun _ => False) w5 w') (by kernel_rfl) rfl (by kernel_rfl) (by kernel_rfl) (⟨cb, cw, hF.drew⟩) ?_
        repeat' first
          | (refine CanonL.skip (by rfl) ?_; (try simp only [Act.put, List.setIfInBounds_toArray, List.set_cons_zero, List.set_cons_succ]))
          | (refine CanonL.val (v := ?_) (by rfl) ?_ ?_; rotate_left 1; (focus (intro w hSw; (try dsimp only at hSw); go_simp; (try (with_reducible rfl)); done)); (try simp only [Act.put, List.setIfInBounds_toArray, List.set_cons_zero, List.set_cons_succ]))
        refine CanonL.done ?_
        intro w9 hS9
        obtain ⟨cb', cw', ff⟩ := hS9
        clear cb cw cw' hF
        cases p with
        | false =>
          have HFF := Lib.hid ff
          clear ff
          go_wp2_with fail
          go_roundw
          case rel => exact ⟨j + 1, by omega, by go_num, by rw [HT.out, List.length_append, HC.out]; rfl, HFF.out⟩
          case measure => simp [intOf]; omega
        | true =>
          have hfa := filter_at (one9 k a l now) l j hlt (by rw [HS.out]; exact HPP.out)
          rw [HC.out, HS.out] at hfa
          have hck : c < (kept9 k a l now).length := (List.getElem?_eq_some_iff.1 hfa).1
          have hce : (kept9 k a l now)[c] = s := (List.getElem?_eq_some_iff.1 hfa).2
          have hci : (c : Int) < ((kept9 k a l now).length : Int) := by omega
          have hcn : ¬ (kept9 k a l now).length ≤ c := by omega
          have hc0 : (0 : Int) ≤ (c : Int) := by omega
          have hji' : (j : Int) < (l.length : Int) := hji
          have ff0 := ff
          obtain ⟨g5', o5', ha5, k0, k1⟩ := (HO5.out.keepF ff).elem c hck
          obtain ⟨gl, ol, hal, l0, l1⟩ := (HL5.out.keepF ff).elem j hlt
          subst ha5 hal
          rw [hce] at k0 k1
          rw [HS.out] at l0 l1
          have hQ : ∀ W, (Op.equalIn 10000 24 (.agg (stv s)) (.agg (stv s))).run Try.prog W = .ok true W := fun W => by rw [run_eq_st]; simp
          clear hfa hce hcl
          go_upto_region 15 with fail
          refine wp_region_canon (fun w' => w'.cell? ⟨g5', o5' + c * 2, none⟩ = some (.int .u32 (s.id : Int)) ∧ w'.cell? ⟨g5', o5' + c * 2 + 1, none⟩ = some (.int .u32 (s.tick : Int)) ∧ w'.cell? ⟨gl, ol + j * 2, none⟩ = some (.int .u32 (s.id : Int)) ∧ w'.cell? ⟨gl, ol + j * 2 + 1, none⟩ = some (.int .u32 (s.tick : Int)) ∧ Frm (fun _ => False) w5 w') (by kernel_rfl) rfl (by kernel_rfl) (by kernel_rfl) (⟨k0, k1, l0, l1, ff.drew⟩) ?_
          repeat' first
            | (refine CanonL.skip (by rfl) ?_; (try simp only [Act.put, List.setIfInBounds_toArray, List.set_cons_zero, List.set_cons_succ]))
            | (refine CanonL.val (v := ?_) (by rfl) ?_ ?_; rotate_left 1; (focus (intro w hSw; (try dsimp only at hSw); go_simp; (try (with_reducible rfl)); done)); (try simp only [Act.put, List.setIfInBounds_toArray, List.set_cons_zero, List.set_cons_succ]))
          refine CanonL.done ?_
          intro w9 hS9
          obtain ⟨_, _, _, _, f9⟩ := hS9
          have HFF := Lib.hid f9
          clear f9 ff ff0 k0 k1 l0 l1 hQ cb'
          go_wp2_with fail
          go_roundw
          case rel => exact ⟨j + 1, by omega, by go_num, by rw [HT.out, List.length_append, HC.out]; rfl, HFF.out⟩
          case measure => simp [intOf]; omega
      · obtain rfl : j = l.length := by omega
        have hcl2 : c = (kept9 k a l now).length := by rw [← HC.out, List.take_length]; rfl
        have HW := Lib.hid awake9_any
        have hce : (((c : Nat) : Int) == (((kept9 k a l now).length : Nat) : Int)) = true := by rw [hcl2]; simp
        go_wp2_with fail
        refine (HW.out _).mono ?_
        rintro e w6 ⟨rfl, g6⟩
        go_wp2_with fail
        go_ret
        exact ⟨rfl, (HG0.out.trans hF).trans g6⟩
end Go.Proofs.Ytbmlfhiffooilaa
