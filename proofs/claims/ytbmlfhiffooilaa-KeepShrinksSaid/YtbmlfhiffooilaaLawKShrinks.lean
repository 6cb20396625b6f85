/- KeepShrinks answers true: of any policy, any versions, any two ticks. No condition. -/
import Derived.Test.YtbmlfhiffooilaaKpJ
namespace Go.Proofs.Ytbmlfhiffooilaa
open Go.RowKit Go.Shelf

def ks4M : List Nat := [1, 2, 4, 15, 16, 32, 64, 240, 271, 752]
def ks4R (k a lo hi cap : Nat) (q : Int) (l : List StI) (aa : Option Addr) : List ((Nat → Value) → World → Prop) := [
  fun val _ => val 0 = .agg (pv k a q),
  fun val _ => val 1 = .slice aa l.length cap,
  fun val _ => val 2 = .int .u32 (lo : Int),
  fun val W => ∃ v, (val 3) = v ∧ StL W v (kept9 k a l lo),
  fun val _ => val 4 = .agg (pv k a q),
  fun val _ => val 5 = .slice aa l.length cap,
  fun val _ => val 6 = .int .u32 (hi : Int),
  fun val W => ∃ v, (val 7) = v ∧ StL W v (kept9 k a l hi),
  fun val _ => val 8 = (val 3),
  fun val _ => val 9 = (val 7)]

set_option maxRecDepth 100000 in
set_option maxHeartbeats 8000000 in
theorem keepShrinks_any (k a : Nat) (q : Int) (v : Value) (l : List StI) (n o : Nat) (w : World) (hl : StL w v l) (hn : n ≤ 4294967295) (ho : o ≤ 4294967295) :
    Calls Try.prog 6 #[.agg (pv k a q), v, .agg #[.int .u32 (n : Int), .int .u32 (o : Int)]] w fun e w' => e = .returned (.bool true) ∧ Frm (fun _ => False) w w' := by
  obtain ⟨aa, cap, rfl, hc1, hc2⟩ := hl.slice
  unfold maxLen at hc2
  have g0 : Frm (fun _ => False) w ((w.alloc (.cells (pv k a q) 27)).alloc (.cells #[.int .u32 (n : Int), .int .u32 (o : Int)] 50)) := ((Frm.refl _ w).alloc _).alloc _
  by_cases hlen : 100 < l.length
  · have hli : (100 : Int) < (l.length : Int) := by omega
    go_enter Try.func6, Try.ntmps6
    go_wp2_with fail
    refine (awake9_any _).mono ?_
    rintro e w1 ⟨rfl, g1⟩
    go_wp2_with fail
    go_ret
    exact ⟨rfl, g0.trans g1⟩
  · have hli : ¬ (100 : Int) < (l.length : Int) := by omega
    have b0 : Blk ((w.alloc (.cells (pv k a q) 27)).alloc (.cells #[.int .u32 (n : Int), .int .u32 (o : Int)] 50)) w.heap.size 27 (pv k a q) := (Blk.alloc w _ _).old _
    have b1 := Blk.atS w 27 50 (pv k a q) #[.int .u32 (n : Int), .int .u32 (o : Int)]
    go_enter Try.func6, Try.ntmps6
    go_upto_region 3 with fail
    generalize ((w.alloc (.cells (pv k a q) 27)).alloc (.cells #[.int .u32 (n : Int), .int .u32 (o : Int)] 50)) = w1 at *
    obtain ⟨A, hA⟩ : ∃ A, w.heap.size = A := ⟨_, rfl⟩
    rw [hA] at b0 b1 ⊢
    obtain ⟨lo, hlo⟩ : ∃ lo, min n o = lo := ⟨_, rfl⟩
    obtain ⟨hi, hhi⟩ : ∃ hi, max n o = hi := ⟨_, rfl⟩
    have hlh : lo ≤ hi := by omega
    have hmin : (if o < n then (o : Int) else (n : Int)) = (lo : Int) := by split <;> omega
    have hmax : (if n < o then (o : Int) else (n : Int)) = (hi : Int) := by split <;> omega
    have HBlo := Lib.hid (show lo ≤ 4294967295 by omega)
    have HBhi := Lib.hid (show hi ≤ 4294967295 by omega)
    have HLEN := Lib.hid (show l.length ≤ 1000000 by omega)
    have HLH := Lib.hid hlh
    have HBP := Lib.hid b0
    have HG := Lib.hid g0
    have HLL := Lib.hid hl
    have HLN := Lib.hid hlen
    have p0 : w1.cell? ⟨A + 1, 0, none⟩ = some (.int .u32 (n : Int)) := b1.cell 0 rfl
    have p1 : w1.cell? ⟨A + 1, 1, none⟩ = some (.int .u32 (o : Int)) := b1.cell 1 rfl
    clear b0 b1 g0 hl hA hlo hhi hlh
    refine wp_region_canon (fun w' => w'.cell? ⟨A + 1, 0, none⟩ = some (.int .u32 (n : Int)) ∧ w'.cell? ⟨A + 1, 1, none⟩ = some (.int .u32 (o : Int)) ∧ Frm (fun _ => False) w1 w') (by kernel_rfl) rfl (by kernel_rfl) (by kernel_rfl) (⟨p0, p1, (Frm.refl _ w1).drew⟩) ?_
    repeat' first
      | (refine CanonL.skip (by rfl) ?_; (try simp only [Act.put, List.setIfInBounds_toArray, List.set_cons_zero, List.set_cons_succ]))
      | (refine CanonL.val (v := ?_) (by rfl) ?_ ?_; rotate_left 1; (focus (intro w hSw; (try dsimp only at hSw); go_simp; (try (with_reducible rfl)); done)); (try simp only [Act.put, List.setIfInBounds_toArray, List.set_cons_zero, List.set_cons_succ]))
    refine CanonL.done ?_
    intro w9 hS9
    obtain ⟨_, _, ff⟩ := hS9
    have HP : Hid (∀ W, Frm (fun _ => False) w9 W → Blk W A 27 (pv k a q)) := Lib.hid fun W gg => HBP.out.keep (ff.trans gg) (fun h => h)
    have HL : Hid (∀ W, Frm (fun _ => False) w9 W → StL W (.slice aa l.length cap) l) := Lib.hid fun W gg => HLL.out.keepF (HG.out.trans (ff.trans gg))
    have HG9 := Lib.hid (HG.out.trans ff)
    clear p0 p1 ff hmin hmax HBP HG HLL
    go_upto_region 4 with fail
    rename_i hK
    have D : Frm (fun _ => False) w9 w9.drew := (Frm.refl _ _).drew
    refine wp_region_late 10 0 [] [[], [], [], [0, 1, 2], [], [], [], [4, 5, 6], [3], [7]] ks4M (ks4R k a lo hi cap q l aa) (by kernel_rfl) rfl rfl rfl (by kernel_rfl) (by kernel_rfl) (by kernel_rfl) (by kernel_rfl) rfl (by kernel_rfl) (by kernel_rfl) (by kernel_rfl) (by kernel_rfl) (fun val => ?_) ?_
    · try dsimp only
      refine RelO.next (k' := 1) rfl (fun W gW hF => ?_) ?_
      focus
        have z0 := (HP.out W (D.trans gW)).cell 0 rfl
        have z1 := (HP.out W (D.trans gW)).cell 1 rfl
        have z2 := (HP.out W (D.trans gW)).cell 2 rfl
        exact OpOK.val (u := .agg (pv k a q)) (by rfl) (by first | (go_simp; done) | (go_simp; with_reducible rfl) | (go_simp; rfl)) (fun W' _ => rfl)
      try simp only [Act.put, List.setIfInBounds_toArray, List.set_cons_zero, List.set_cons_succ]
      refine RelO.next (k' := 2) rfl (fun W gW hF => ?_) ?_
      focus
        refine OpOK.val (u := .slice aa l.length cap) (by rfl) ?_ (fun W' _ => rfl)
        try simp only [tupAt]
        first | (go_simp; done) | (go_simp; with_reducible rfl) | (go_simp; rfl)
      try simp only [Act.put, List.setIfInBounds_toArray, List.set_cons_zero, List.set_cons_succ]
      refine RelO.next (k' := 3) rfl (fun W gW hF => ?_) ?_
      focus
        refine OpOK.val (u := .int .u32 (lo : Int)) (by rfl) ?_ (fun W' _ => rfl)
        try simp only [tupAt]
        first | (go_simp; done) | (go_simp; with_reducible rfl) | (go_simp; rfl)
      try simp only [Act.put, List.setIfInBounds_toArray, List.set_cons_zero, List.set_cons_succ]
      refine RelO.next (k' := 4) rfl (fun W gW hF => ?_) ?_
      focus
        obtain ⟨h0, h1, h2, _⟩ := hF
        have e0 : val 0 = .agg (pv k a q) := h0 _ (Frm.refl _ W)
        have e1 : val 1 = .slice aa l.length cap := h1 _ (Frm.refl _ W)
        have e2 : val 2 = .int .u32 (lo : Int) := h2 _ (Frm.refl _ W)
        try simp only [e2]
        try simp only [e1]
        try simp only [e0]
        try simp only [tupAt]
        refine OpOK.call (by rfl) ?_ ((kept_any k a lo q _ l W (HL.out W (D.trans gW)) HLEN.out HBlo.out).mono ?_)
        · first | (go_simp; done) | (go_simp; with_reducible rfl) | (go_simp; rfl)
        · rintro e W1 ⟨v', rfl, h1, _, g1⟩
          exact ⟨_, rfl, g1, fun W2 g2 => ⟨v', rfl, h1.sl.keepF g2⟩⟩
      try simp only [Act.put, List.setIfInBounds_toArray, List.set_cons_zero, List.set_cons_succ]
      refine RelO.next (k' := 5) rfl (fun W gW hF => ?_) ?_
      focus
        have z0 := (HP.out W (D.trans gW)).cell 0 rfl
        have z1 := (HP.out W (D.trans gW)).cell 1 rfl
        have z2 := (HP.out W (D.trans gW)).cell 2 rfl
        exact OpOK.val (u := .agg (pv k a q)) (by rfl) (by first | (go_simp; done) | (go_simp; with_reducible rfl) | (go_simp; rfl)) (fun W' _ => rfl)
      try simp only [Act.put, List.setIfInBounds_toArray, List.set_cons_zero, List.set_cons_succ]
      refine RelO.next (k' := 6) rfl (fun W gW hF => ?_) ?_
      focus
        refine OpOK.val (u := .slice aa l.length cap) (by rfl) ?_ (fun W' _ => rfl)
        try simp only [tupAt]
        first | (go_simp; done) | (go_simp; with_reducible rfl) | (go_simp; rfl)
      try simp only [Act.put, List.setIfInBounds_toArray, List.set_cons_zero, List.set_cons_succ]
      refine RelO.next (k' := 7) rfl (fun W gW hF => ?_) ?_
      focus
        refine OpOK.val (u := .int .u32 (hi : Int)) (by rfl) ?_ (fun W' _ => rfl)
        try simp only [tupAt]
        first | (go_simp; done) | (go_simp; with_reducible rfl) | (go_simp; rfl)
      try simp only [Act.put, List.setIfInBounds_toArray, List.set_cons_zero, List.set_cons_succ]
      refine RelO.next (k' := 8) rfl (fun W gW hF => ?_) ?_
      focus
        obtain ⟨h4, h5, h6, _⟩ := hF
        have e4 : val 4 = .agg (pv k a q) := h4 _ (Frm.refl _ W)
        have e5 : val 5 = .slice aa l.length cap := h5 _ (Frm.refl _ W)
        have e6 : val 6 = .int .u32 (hi : Int) := h6 _ (Frm.refl _ W)
        try simp only [e6]
        try simp only [e5]
        try simp only [e4]
        try simp only [tupAt]
        refine OpOK.call (by rfl) ?_ ((kept_any k a hi q _ l W (HL.out W (D.trans gW)) HLEN.out HBhi.out).mono ?_)
        · first | (go_simp; done) | (go_simp; with_reducible rfl) | (go_simp; rfl)
        · rintro e W1 ⟨v', rfl, h1, _, g1⟩
          exact ⟨_, rfl, g1, fun W2 g2 => ⟨v', rfl, h1.sl.keepF g2⟩⟩
      try simp only [Act.put, List.setIfInBounds_toArray, List.set_cons_zero, List.set_cons_succ]
      refine RelO.next (k' := 9) rfl (fun W gW hF => ?_) ?_
      focus
        obtain ⟨h3, _⟩ := hF
        have q3 : ∃ v, (val 3) = v ∧ StL W v (kept9 k a l lo) := h3 _ (Frm.refl _ W)
        obtain ⟨v30, e3, o30⟩ := q3
        try simp only [e3]
        try simp only [tupAt]
        refine OpOK.val (u := (val 3)) (by rfl) ?_ (fun W' _ => rfl)
        try simp only [e3]
        try simp only [tupAt]
        first | (go_simp; done) | (go_simp; with_reducible rfl) | (go_simp; rfl)
      try simp only [Act.put, List.setIfInBounds_toArray, List.set_cons_zero, List.set_cons_succ]
      refine RelO.next (k' := 10) rfl (fun W gW hF => ?_) ?_
      focus
        obtain ⟨h7, _⟩ := hF
        have q7 : ∃ v, (val 7) = v ∧ StL W v (kept9 k a l hi) := h7 _ (Frm.refl _ W)
        obtain ⟨v34, e7, o34⟩ := q7
        try simp only [e7]
        try simp only [tupAt]
        refine OpOK.val (u := (val 7)) (by rfl) ?_ (fun W' _ => rfl)
        try simp only [e7]
        try simp only [tupAt]
        first | (go_simp; done) | (go_simp; with_reducible rfl) | (go_simp; rfl)
      try simp only [Act.put, List.setIfInBounds_toArray, List.set_cons_zero, List.set_cons_succ]
      exact RelO.nil
    intro val w3 gW hF
    obtain ⟨h0, h1, h2, h3, h4, h5, h6, h7, h8, h9, hT⟩ := hF
    have e0 : val 0 = .agg (pv k a q) := h0 _ (Frm.refl _ w3)
    have e1 : val 1 = .slice aa l.length cap := h1 _ (Frm.refl _ w3)
    have e2 : val 2 = .int .u32 (lo : Int) := h2 _ (Frm.refl _ w3)
    have q3 : ∃ v, (val 3) = v ∧ StL w3 v (kept9 k a l lo) := h3 _ (Frm.refl _ w3)
    obtain ⟨v30, e3, o30⟩ := q3
    have e4 : val 4 = .agg (pv k a q) := h4 _ (Frm.refl _ w3)
    have e5 : val 5 = .slice aa l.length cap := h5 _ (Frm.refl _ w3)
    have e6 : val 6 = .int .u32 (hi : Int) := h6 _ (Frm.refl _ w3)
    have q7 : ∃ v, (val 7) = v ∧ StL w3 v (kept9 k a l hi) := h7 _ (Frm.refl _ w3)
    obtain ⟨v34, e7, o34⟩ := q7
    have e8 : val 8 = (val 3) := h8 _ (Frm.refl _ w3)
    have e9 : val 9 = (val 7) := h9 _ (Frm.refl _ w3)
    clear hT h0 h1 h2 h3 h4 h5 h6 h7 h8 h9
    simp only [aO, Act.put, List.setIfInBounds_toArray, List.set_cons_zero, List.set_cons_succ, Nat.reduceAdd]
    try simp only [e9]
    try simp only [e8]
    try simp only [e7]
    try simp only [e6]
    try simp only [e5]
    try simp only [e4]
    try simp only [e3]
    try simp only [e2]
    try simp only [e1]
    try simp only [e0]
    try simp only [tupAt]
    refine wpTail.doneN ?_
    refine hK _ _ ?_
    have G4 := D.trans gW
    have hk1 : (kept9 k a l lo).length ≤ 1000000 := Nat.le_trans (List.length_filter_le _ _) HLEN.out
    have HK3 := Lib.hid (kept_any k a hi q _ (kept9 k a l lo) w3 o30 hk1 HBhi.out)
    rw [kept9_again k a l lo hi HLH.out] at HK3
    have q0 := (HP.out w3 G4).cell 0 rfl
    have q1 := (HP.out w3 G4).cell 1 rfl
    have q2 := (HP.out w3 G4).cell 2 rfl
    have HSUB : Hid (∀ s ∈ kept9 k a l hi, s ∈ kept9 k a l lo) := Lib.hid fun s hs => kept9_sub HLH.out hs
    have HM100 : Hid ((kept9 k a l hi).length ≤ 100) := Lib.hid (Nat.le_trans (List.length_filter_le _ _) (by have := HLN.out; omega))
    have HO30 := Lib.hid o30
    have HO34 := Lib.hid o34
    have HG10 := Lib.hid (HG9.out.trans G4)
    clear gW D hK G4 o30 o34 HP HL HG9 hk1 e0 e1 e2 e3 e4 e5 e6 e7 e8 e9
    generalize kept9 k a l hi = M at *
    generalize kept9 k a l lo = E0 at *
    go_wp2_with fail
    refine HK3.out.mono ?_
    rintro e w5 ⟨v5, rfl, o5, _, g5⟩
    obtain ⟨a5, c5, rfl, hf1, hf2⟩ := o5.sl.slice
    obtain ⟨a6, c6, e34, he1, he2⟩ := HO34.out.slice
    subst e34
    unfold maxLen at hf2 he2
    have hm1 := HM100.out
    have HO5 := Lib.hid o5.sl
    have HO6 := Lib.hid (HO34.out.keepF g5)
    have HO7 := Lib.hid (HO30.out.keepF g5)
    have HG11 := Lib.hid (HG10.out.trans g5)
    clear q0 q1 q2 o5 g5 HK3 HO30 HO34 HG10
    go_wp2_with fail
    go_loopw [12] (fun i wr => ∃ j : Nat, j ≤ M.length ∧ i = .int .i64 j ∧ Frm (fun _ => False) w5 wr) (fun i _ => M.length - (intOf i).toNat)
    case atStart => exact ⟨0, Nat.zero_le _, rfl, Frm.refl _ _⟩
    case round =>
      obtain ⟨j, hj, rfl, hF⟩ := hrel
      by_cases hlt : j < M.length
      · have hji : (j : Int) < (M.length : Int) := by omega
        have hj0 : (0 : Int) ≤ (j : Int) := by omega
        obtain ⟨s, hs⟩ : ∃ s, M[j] = s := ⟨_, rfl⟩
        obtain ⟨g5, o5, ha5, k0, k1⟩ := (HO5.out.keepF hF).elem j hlt
        obtain ⟨g6, o6, ha6, l0, l1⟩ := (HO6.out.keepF hF).elem j hlt
        subst ha5 ha6
        rw [hs] at k0 k1 l0 l1
        have hmem : s ∈ E0 := HSUB.out s (by rw [← hs]; exact List.getElem_mem hlt)
        have hQ : ∀ W, (Op.equalIn 10000 24 (.agg (stv s)) (.agg (stv s))).run Try.prog W = .ok true W := fun W => by rw [run_eq_st]; simp
        have HH : ∀ W, (W.cell? ⟨g5, o5 + j * 2, none⟩ = some (.int .u32 (s.id : Int)) ∧ W.cell? ⟨g5, o5 + j * 2 + 1, none⟩ = some (.int .u32 (s.tick : Int)) ∧ W.cell? ⟨g6, o6 + j * 2, none⟩ = some (.int .u32 (s.id : Int)) ∧ W.cell? ⟨g6, o6 + j * 2 + 1, none⟩ = some (.int .u32 (s.tick : Int)) ∧ Frm (fun _ => False) w5 W) → Calls Try.prog 23 #[v30, .agg (stv s)] W fun e w' => e = .returned (.bool true) ∧ Frm (fun _ => False) W w' := fun W hW => by
          have h := has9_any v30 E0 s W (HO7.out.keepF hW.2.2.2.2)
          rw [decide_eq_true hmem] at h
          exact h
        have HHH := Lib.hid HH
        clear hs hmem HH
        go_upto_region 11 with fail
        refine wp_region_canon (fun w' => w'.cell? ⟨g5, o5 + j * 2, none⟩ = some (.int .u32 (s.id : Int)) ∧ w'.cell? ⟨g5, o5 + j * 2 + 1, none⟩ = some (.int .u32 (s.tick : Int)) ∧ w'.cell? ⟨g6, o6 + j * 2, none⟩ = some (.int .u32 (s.id : Int)) ∧ w'.cell? ⟨g6, o6 + j * 2 + 1, none⟩ = some (.int .u32 (s.tick : Int)) ∧ Frm (fun _ => False) w5 w') (by kernel_rfl) rfl (by kernel_rfl) (by kernel_rfl) (⟨k0, k1, l0, l1, hF.drew⟩) ?_
        repeat' first
          | (refine CanonL.skip (by rfl) ?_; (try simp only [Act.put, List.setIfInBounds_toArray, List.set_cons_zero, List.set_cons_succ]))
          | (refine CanonL.callS (by rfl) (by rfl) ?_ HHH.out ?_ ?_; (focus (intro w; go_simp; (try (with_reducible rfl)); done)); (focus (rintro w ww hs gg; exact ⟨gg.cellF hs.1, gg.cellF hs.2.1, gg.cellF hs.2.2.1, gg.cellF hs.2.2.2.1, hs.2.2.2.2.trans gg⟩)); (try simp only [Act.put, List.setIfInBounds_toArray, List.set_cons_zero, List.set_cons_succ]))
          | (refine CanonL.val (v := ?_) (by rfl) ?_ ?_; rotate_left 1; (focus (intro w hSw; (try dsimp only at hSw); go_simp; (try (with_reducible rfl)); done)); (try simp only [Act.put, List.setIfInBounds_toArray, List.set_cons_zero, List.set_cons_succ]))
        refine CanonL.done ?_
        intro w9 hS9
        obtain ⟨_, _, _, _, f9⟩ := hS9
        have HFF := Lib.hid f9
        clear f9 hF k0 k1 l0 l1 hQ
        go_wp2_with fail
        go_roundw
        case rel => exact ⟨j + 1, by omega, by go_num, HFF.out⟩
        case measure => simp [intOf]; omega
      · obtain rfl : j = M.length := by omega
        have HW := Lib.hid awake9_any
        go_wp2_with fail
        refine (HW.out _).mono ?_
        rintro e w6 ⟨rfl, g6⟩
        go_wp2_with fail
        go_ret
        exact ⟨rfl, (HG11.out.trans hF).trans g6⟩
end Go.Proofs.Ytbmlfhiffooilaa
