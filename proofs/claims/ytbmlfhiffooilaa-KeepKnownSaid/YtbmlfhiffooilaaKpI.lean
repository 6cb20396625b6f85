/- What the statements' own of, can, stages, keeps, awake answer. No condition but that there are at most a thousand ticks. -/
import Derived.Test.YtbmlfhiffooilaaKpH
import Derived.Test.YtbmlfhiffooilaaKpB
namespace Go.Proofs.Ytbmlfhiffooilaa
open Go.RowKit Go.Shelf

/-- Versions of these ticks, with IDs from 1 on. -/
def mkSt (i t : Nat) : StI := ⟨min i 4294967295, min t 4294967295, Nat.min_le_right _ _, Nat.min_le_right _ _⟩
def ofL (T : List Nat) : List StI := T.zipIdx.map (fun x => mkSt (x.2 + 1) x.1)
theorem ofL_len (T : List Nat) : (ofL T).length = T.length := by simp [ofL]
theorem ofL_take {T : List Nat} {k : Nat} (h : k < T.length) : (ofL T).take (k + 1) = (ofL T).take k ++ [mkSt (k + 1) T[k]] := by
  rw [List.take_succ_eq_append_getElem (by rw [ofL_len]; exact h)]
  simp [ofL]
set_option maxRecDepth 100000 in
set_option maxHeartbeats 4000000 in
theorem of_any (v : Value) (T : List Nat) (w : World) (h : Ids w v T) (hb : T.length ≤ 1000 ∧ ∀ x ∈ T, x ≤ 4294967295) :
    Calls Try.prog 28 #[v] w (StTo (ofL T) w) := by
  obtain ⟨a, cap, rfl, hc1, hc2⟩ := h.slice
  unfold maxLen at hc2
  obtain ⟨hb, hT⟩ := hb
  have HL := Lib.hid h
  have HB := Lib.hid hT
  clear h hT
  go_enter Try.func28, Try.ntmps28
  go_wp2_with fail
  go_loopw [3, 4] (fun u i wr => ∃ j : Nat, j ≤ T.length ∧ i = .int .i64 j ∧ OwnSt wr u ((ofL T).take j) ∧ (∀ g, u.ownBlock = some g → w.heap.size ≤ g) ∧ Frm (fun _ => False) w wr) (fun _ i _ => T.length - (intOf i).toNat)
  case atStart => exact ⟨0, Nat.zero_le _, rfl, by rw [List.take_zero]; exact OwnSt.nil_ _, fun g e => (by cases e), Frm.refl _ _⟩
  case round =>
    obtain ⟨j, hj, rfl, hO, hN, hF⟩ := hrel
    by_cases hlt : j < T.length
    · have hji : (j : Int) < (T.length : Int) := by omega
      have hj0 : (0 : Int) ≤ (j : Int) := by omega
      obtain ⟨g, off, rfl, _, e0⟩ := (HL.out.keepF hF).at j hlt
      obtain ⟨t, ht⟩ : ∃ t, T[j] = t := ⟨_, rfl⟩
      have htb : t ≤ 4294967295 := by rw [← ht]; exact HB.out _ (List.getElem_mem hlt)
      have HT := Lib.hid (ofL_take hlt)
      rw [ht] at e0 HT
      clear ht
      obtain ⟨s, hs⟩ : ∃ s, mkSt (j + 1) t = s := ⟨_, rfl⟩
      rw [hs] at HT
      have hs1 : s.id = j + 1 := by rw [← hs]; simp [mkSt]; omega
      have hs2 : s.tick = t := by rw [← hs]; simp [mkSt]; omega
      have hcv : IntKind.u32.wrap ((j : Int) + 1) = (s.id : Int) := by rw [IntWalk.u32_in _ (by omega)]; omega
      have hcw : IntKind.i64.wrap ((j : Int) + 1) = (j : Int) + 1 := IntWalk.i64_in _ (by omega)
      rw [← hs2] at e0
      clear hs hs1 hs2 htb
      have g3 : Frm (fun _ => False) wr (wr.alloc (.cells (stv s) 24)) := (Frm.refl _ wr).alloc _
      obtain ⟨a4, c4, rfl, _, _⟩ := hO.sl.slice
      have hl : ((ofL T).take j).length = j := by rw [List.length_take, ofL_len]; omega
      obtain ⟨v6, w6, hrun, hrow, hgr, hnew⟩ := append_sts _ _ _ _ [s] (hO.keep g3 (fun _ _ h => h)) (StL.one wr s) (by
        have h3 : ([s] : List StI).length = 1 := rfl
        omega)
      have HT6 := Lib.hid (show ∀ g, v6.ownBlock = some g → w.heap.size ≤ g from fun g e => (hnew g e).elim (fun e => hN g e) (fun e => by have := g3.size; have := hF.size; omega))
      have HF6 := Lib.hid (show Frm (fun _ => False) w w6 from (hF.trans g3).grown hgr (fun k hk e => by have := hN k e; omega))
      have HO6 := Lib.hid hrow
      have Hrun := Lib.hid hrun
      clear hO hN hF g3 hrun hrow hgr hnew hl
      go_wp2_with (at_builtin; refine Lib.wpList_append_run _ rfl _ _ _ _ rfl _ _ rfl rfl _ _ Hrun.out ?_)
      go_roundw
      case rel => exact ⟨j + 1, by omega, by go_num, by rw [HT.out]; exact HO6.out, HT6.out, HF6.out⟩
      case measure => simp [intOf]; omega
    · obtain rfl : j = T.length := by omega
      rw [List.take_of_length_le (by rw [ofL_len]; exact Nat.le_refl _)] at hO
      go_wp2_with fail
      go_ret
      exact ⟨u3, rfl, hO, hN, hF⟩
/-- Which are kept, as a text. -/
def txt9 (L : List Bool) : List UInt8 := L.map (fun b => if b then 121 else 110)
def kps1M : List Nat := [1, 2, 6, 8, 31, 63]
def kps1R (k ag now : Nat) (qt : Int) (T : List Nat) (a : Option Addr) (cap : Nat) : List ((Nat → Value) → World → Prop) := [
  fun val _ => val 0 = .agg (pv k ag qt),
  fun val _ => val 1 = .slice a T.length cap,
  fun val W => ∃ v, (val 2) = v ∧ StL W v (ofL T),
  fun val _ => val 3 = .int .u32 (now : Int),
  fun val W => ∃ b n, (val 4) = .slice (some ⟨b, 0, none⟩) n n ∧ n = T.length ∧ Blk W b 4 (bls (keep9 k ag (ofL T) now)),
  fun val _ => val 5 = (val 4)]

set_option maxRecDepth 100000 in
set_option maxHeartbeats 8000000 in
theorem keeps_any (k ag now : Nat) (qt : Int) (v : Value) (T : List Nat) (w : World) (h : Ids w v T) (hb : T.length ≤ 1000 ∧ ∀ x ∈ T, x ≤ 4294967295) (hnow : now ≤ 4294967295) :
    Calls Try.prog 20 #[.agg (pv k ag qt), .int .u32 (now : Int), v] w fun e w' => e = .returned (.string (bs (txt9 (keep9 k ag (ofL T) now)))) ∧ Frm (fun _ => False) w w' := by
  obtain ⟨a, cap, rfl, hc1, hc2⟩ := h.slice
  have g0 : Frm (fun _ => False) w (w.alloc (.cells (pv k ag qt) 27)) := (Frm.refl _ w).alloc _
  have b0 : Blk (w.alloc (.cells (pv k ag qt) 27)) w.heap.size 27 (pv k ag qt) := Blk.alloc w _ _
  go_enter Try.func20, Try.ntmps20
  go_upto_region 1 with fail
  rename_i hK
  generalize w.alloc (.cells (pv k ag qt) 27) = w1 at *
  obtain ⟨A, hA⟩ : ∃ A, w.heap.size = A := ⟨_, rfl⟩
  rw [hA] at b0 ⊢
  have HTL := Lib.hid hb
  have HNOW := Lib.hid hnow
  have HP : Hid (∀ W, Frm (fun _ => False) w1 W → Blk W A 27 (pv k ag qt)) := Lib.hid fun W g => b0.keep g (fun h => h)
  have HT : Hid (∀ W, Frm (fun _ => False) w1 W → Ids W (.slice a T.length cap) T) := Lib.hid fun W g => h.keepF (g0.trans g)
  have HG := Lib.hid g0
  clear h b0 hA g0 hb hnow
  have D : Frm (fun _ => False) w1 w1.drew := (Frm.refl _ _).drew
  refine wp_region_late 6 0 [] [[], [], [1], [], [0, 2, 3], [4]] kps1M (kps1R k ag now qt T a cap) (by kernel_rfl) rfl rfl rfl (by kernel_rfl) (by kernel_rfl) (by kernel_rfl) (by kernel_rfl) rfl (by kernel_rfl) (by kernel_rfl) (by kernel_rfl) (by kernel_rfl) (fun val => ?_) ?_
  · try dsimp only
    refine RelO.next (k' := 1) rfl (fun W gW hF => ?_) ?_
    focus
      have z0 := (HP.out W (D.trans gW)).cell 0 rfl
      have z1 := (HP.out W (D.trans gW)).cell 1 rfl
      have z2 := (HP.out W (D.trans gW)).cell 2 rfl
      exact OpOK.val (u := .agg (pv k ag qt)) (by rfl) (by first | (go_simp; done) | (go_simp; with_reducible rfl) | (go_simp; rfl)) (fun W' _ => rfl)
    try simp only [Act.put, List.setIfInBounds_toArray, List.set_cons_zero, List.set_cons_succ]
    refine RelO.next (k' := 2) rfl (fun W gW hF => ?_) ?_
    focus
      refine OpOK.val (u := .slice a T.length cap) (by rfl) ?_ (fun W' _ => rfl)
      try simp only [tupAt]
      first | (go_simp; done) | (go_simp; with_reducible rfl) | (go_simp; rfl)
    try simp only [Act.put, List.setIfInBounds_toArray, List.set_cons_zero, List.set_cons_succ]
    refine RelO.next (k' := 3) rfl (fun W gW hF => ?_) ?_
    focus
      obtain ⟨h1, _⟩ := hF
      have e1 : val 1 = .slice a T.length cap := h1 _ (Frm.refl _ W)
      try simp only [e1]
      try simp only [tupAt]
      refine OpOK.call (by rfl) ?_ ((of_any _ T W (HT.out W (D.trans gW)) HTL.out).mono ?_)
      · first | (go_simp; done) | (go_simp; with_reducible rfl) | (go_simp; rfl)
      · rintro e W1 ⟨v', rfl, h1, _, g1⟩
        exact ⟨_, rfl, g1, fun W2 g2 => ⟨v', rfl, h1.sl.keepF g2⟩⟩
    try simp only [Act.put, List.setIfInBounds_toArray, List.set_cons_zero, List.set_cons_succ]
    refine RelO.next (k' := 4) rfl (fun W gW hF => ?_) ?_
    focus
      refine OpOK.val (u := .int .u32 (now : Int)) (by rfl) ?_ (fun W' _ => rfl)
      try simp only [tupAt]
      first | (go_simp; done) | (go_simp; with_reducible rfl) | (go_simp; rfl)
    try simp only [Act.put, List.setIfInBounds_toArray, List.set_cons_zero, List.set_cons_succ]
    refine RelO.next (k' := 5) rfl (fun W gW hF => ?_) ?_
    focus
      obtain ⟨h0, h2, h3, _⟩ := hF
      have e0 : val 0 = .agg (pv k ag qt) := h0 _ (Frm.refl _ W)
      have q2 : ∃ v, (val 2) = v ∧ StL W v (ofL T) := h2 _ (Frm.refl _ W)
      obtain ⟨v12, e2, o12⟩ := q2
      have e3 : val 3 = .int .u32 (now : Int) := h3 _ (Frm.refl _ W)
      try simp only [e3]
      try simp only [e2]
      try simp only [e0]
      try simp only [tupAt]
      refine OpOK.call (by rfl) ?_ ((keep_any k ag now qt v12 (ofL T) W o12 (by rw [ofL_len]; have := HTL.out; omega) HNOW.out).mono ?_)
      · first | (go_simp; done) | (go_simp; with_reducible rfl) | (go_simp; rfl)
      · rintro e W1 ⟨b', rfl, _, h2, g1⟩
        exact ⟨_, rfl, g1, fun W2 g2 => ⟨b', _, rfl, by simp [keep9, ofL_len], h2.keep g2 (fun h => h)⟩⟩
    try simp only [Act.put, List.setIfInBounds_toArray, List.set_cons_zero, List.set_cons_succ]
    refine RelO.next (k' := 6) rfl (fun W gW hF => ?_) ?_
    focus
      obtain ⟨h4, _⟩ := hF
      have q4 : ∃ b n, (val 4) = .slice (some ⟨b, 0, none⟩) n n ∧ n = T.length ∧ Blk W b 4 (bls (keep9 k ag (ofL T) now)) := h4 _ (Frm.refl _ W)
      obtain ⟨b14, n14, e4, hn14, o14⟩ := q4
      try simp only [e4]
      try simp only [tupAt]
      refine OpOK.val (u := (val 4)) (by rfl) ?_ (fun W' _ => rfl)
      try simp only [e4]
      try simp only [tupAt]
      first | (go_simp; done) | (go_simp; with_reducible rfl) | (go_simp; rfl)
    try simp only [Act.put, List.setIfInBounds_toArray, List.set_cons_zero, List.set_cons_succ]
    exact RelO.nil
  intro val w3 gW hF
  obtain ⟨h0, h1, h2, h3, h4, h5, hT⟩ := hF
  have e0 : val 0 = .agg (pv k ag qt) := h0 _ (Frm.refl _ w3)
  have e1 : val 1 = .slice a T.length cap := h1 _ (Frm.refl _ w3)
  have q2 : ∃ v, (val 2) = v ∧ StL w3 v (ofL T) := h2 _ (Frm.refl _ w3)
  obtain ⟨v12, e2, o12⟩ := q2
  have e3 : val 3 = .int .u32 (now : Int) := h3 _ (Frm.refl _ w3)
  have q4 : ∃ b n, (val 4) = .slice (some ⟨b, 0, none⟩) n n ∧ n = T.length ∧ Blk w3 b 4 (bls (keep9 k ag (ofL T) now)) := h4 _ (Frm.refl _ w3)
  obtain ⟨b14, n14, e4, hn14, o14⟩ := q4
  have e5 : val 5 = (val 4) := h5 _ (Frm.refl _ w3)
  clear hT h0 h1 h2 h3 h4 h5
  simp only [aO, Act.put, List.setIfInBounds_toArray, List.set_cons_zero, List.set_cons_succ, Nat.reduceAdd]
  try simp only [e5]
  try simp only [e4]
  try simp only [e3]
  try simp only [e2]
  try simp only [e1]
  try simp only [e0]
  try simp only [tupAt]
  refine wpTail.doneN ?_
  refine hK _ _ ?_
  have HG2 := Lib.hid (HG.out.trans (D.trans gW))
  have HO := Lib.hid o14
  have hL : (keep9 k ag (ofL T) now).length = n14 := by rw [hn14]; simp [keep9, ofL_len]
  have hn1000 : n14 ≤ 1000 := by rw [hn14]; exact HTL.out.1
  clear HP HT HG D gW hK o12 o14 hn14 e0 e1 e2 e3 e4 e5
  obtain ⟨L, hLe⟩ : ∃ L, keep9 k ag (ofL T) now = L := ⟨_, rfl⟩
  have HLE := Lib.hid hLe
  rw [hLe] at HO hL
  clear hLe
  have HLL := Lib.hid hL
  clear hL
  go_wp2_with fail
  go_loopw [8, 9] (fun s i wr => ∃ j : Nat, j ≤ n14 ∧ i = .int .i64 j ∧ s = .string (bs (txt9 (L.take j))) ∧ Frm (fun _ => False) w3 wr) (fun _ i _ => n14 - (intOf i).toNat)
  case atStart => exact ⟨0, Nat.zero_le _, rfl, rfl, Frm.refl _ _⟩
  case round =>
    obtain ⟨j, hj, rfl, rfl, hF⟩ := hrel
    by_cases hlt : j < n14
    · have hji : (j : Int) < (n14 : Int) := by omega
      have hj0 : (0 : Int) ≤ (j : Int) := by omega
      have hjL : j < L.length := by rw [HLL.out]; exact hlt
      have cb := bls_cell (HO.out.keep hF (fun h => h)) j hjL
      have HT : Hid (txt9 (L.take (j + 1)) = txt9 (L.take j) ++ [if L[j] then 121 else 110]) := Lib.hid (by rw [List.take_succ_eq_append_getElem hjL]; unfold txt9; rw [List.map_append]; rfl)
      have HF := Lib.hid hF
      clear hF
      have hsz : (txt9 (L.take j)).length ≤ 1000 := by simp [txt9]; omega
      have hszb : (bs (txt9 (L.take j))).size ≤ 1000 := hsz
      generalize txt9 (L.take j) = tx at *
      cases hq : L[j] with
      | true =>
        rw [hq] at cb HT
        have HQ := Lib.hid hq
        clear hq
        go_wp2_with fail
        go_roundw
        case rel => exact ⟨j + 1, by omega, by go_num, by rw [HT.out, ← bs_append]; rfl, HF.out⟩
        case measure => simp [intOf]; omega
      | false =>
        rw [hq] at cb HT
        have HQ := Lib.hid hq
        clear hq
        go_wp2_with fail
        go_roundw
        case rel => exact ⟨j + 1, by omega, by go_num, by rw [HT.out, ← bs_append]; rfl, HF.out⟩
        case measure => simp [intOf]; omega
    · obtain rfl : n14 = j := by omega
      have hLT : L.take n14 = L := List.take_of_length_le (by rw [HLL.out]; exact Nat.le_refl _)
      rw [hLT]
      go_wp2_with fail
      go_ret
      exact ⟨by rw [HLE.out]; rfl, HG2.out.trans hF⟩
set_option maxHeartbeats 1000000 in
theorem can_any (u : Nat) (w : World) : Calls Try.prog 21 #[.int .u32 (u : Int)] w fun e w' => e = .returned (.agg (pv 0 u 0)) ∧ Frm (fun _ => False) w w' := by
  have g1 := (Frm.refl (fun _ => False) w).alloc (.cells (pv 0 u 0) 27)
  go_enter Try.func21, Try.ntmps21
  go_wp2_with fail
  refine bodyPost_ret (v := .agg (pv 0 u 0)) (by simp [results, Try.results21, go_sem]) rfl ?_
  exact ⟨rfl, g1⟩
set_option maxHeartbeats 1000000 in
theorem stages_any (w : World) : Calls Try.prog 22 #[] w fun e w' => e = .returned (.agg (pv 1 0 0)) ∧ Frm (fun _ => False) w w' := by
  have g1 := (Frm.refl (fun _ => False) w).alloc (.cells (pv 1 0 0) 27)
  go_enter Try.func22, Try.ntmps22
  go_wp2_with fail
  refine bodyPost_ret (v := .agg (pv 1 0 0)) (by simp [results, Try.results22, go_sem]) rfl ?_
  exact ⟨rfl, g1⟩
/-- Ticks that were built. -/
theorem Ids.built (w : World) (T : List Nat) (h : T.length ≤ 1000) : Ids (w.alloc (.cells (u32s T).toArray 22)) (.slice (some ⟨w.heap.size, 0, none⟩) T.length T.length) T := by
  refine ⟨by simp [u32s], _, _, rfl, Nat.le_refl _, by unfold maxLen; omega, .inr ⟨_, 0, rfl, by simp, fun j hj => ?_⟩⟩
  have hj' : j < (u32s T).length := by rw [u32s_length]; omega
  rw [Nat.zero_add, (Blk.alloc w 22 (u32s T).toArray).cell j (v := (u32s T)[j]) (by simp [hj']), List.getElem?_eq_getElem hj']
/-- keeps of ticks that were just built. -/
theorem keepsB (k ag now : Nat) (qt : Int) (T : List Nat) (w : World) (t : List UInt8) (hb : (T.length ≤ 1000 ∧ ∀ x ∈ T, x ≤ 4294967295)) (hnow : now ≤ 4294967295) (ht : txt9 (keep9 k ag (ofL T) now) = t) :
    Calls Try.prog 20 #[.agg (pv k ag qt), .int .u32 (now : Int), .slice (some ⟨w.heap.size, 0, none⟩) T.length T.length] (w.alloc (.cells (u32s T).toArray 22)) fun e w' => e = .returned (.string (bs t)) ∧ Frm (fun _ => False) w w' :=
  (keeps_any k ag now qt _ T _ (Ids.built w T hb.1) hb hnow).mono fun e w' ⟨he, g⟩ => ⟨by rw [he, ht], ((Frm.refl _ w).alloc _).trans g⟩
set_option maxRecDepth 100000 in
set_option maxHeartbeats 4000000 in
theorem awake9_any (w : World) : Calls Try.prog 15 #[] w fun e w' => e = .returned (.bool true) ∧ Frm (fun _ => False) w w' := by
  have H1 := Lib.hid (fun W => keepsB 0 5 9 0 [3, 4, 9, 12] W [110, 121, 121, 121] (by decide) (by decide) (by decide))
  have H2 := Lib.hid (fun W => keepsB 1 0 40 0 [16, 17, 23, 24, 31] W [110, 110, 121, 110, 121] (by decide) (by decide) (by decide))
  have HC := Lib.hid can_any
  have HS := Lib.hid stages_any
  have t1 : ((bs [110, 121, 121, 121]).toList == [110, 121, 121, 121]) = true := by rw [bs_toList]; rfl
  have t2 : ((bs [110, 110, 121, 110, 121]).toList == [110, 110, 121, 110, 121]) = true := by rw [bs_toList]; rfl
  have HK := Lib.hid (fun W => check9_any 0 5 0 W (by decide) (by decide) (by decide) (by decide))
  go_enter Try.func15, Try.ntmps15
  go_wp2_with fail
  refine (HC.out 5 _).mono ?_
  rintro e w1 ⟨rfl, g1⟩
  go_wp2_with fail
  refine (H1.out w1).mono ?_
  rintro e w2 ⟨rfl, g2⟩
  have G2 := Lib.hid (g1.trans g2)
  clear g1 g2
  go_wp2_with fail
  refine (HS.out _).mono ?_
  rintro e w3 ⟨rfl, g3⟩
  have G3 := Lib.hid (G2.out.trans g3)
  clear g3
  go_wp2_with fail
  refine (H2.out w3).mono ?_
  rintro e w4 ⟨rfl, g4⟩
  have G4 := Lib.hid (G3.out.trans g4)
  clear g4
  go_wp2_with fail
  refine (HC.out 5 _).mono ?_
  rintro e w5 ⟨rfl, g5⟩
  have G5 := Lib.hid (G4.out.trans g5)
  clear g5
  go_wp2_with fail
  refine (HK.out _).mono ?_
  rintro e w6 ⟨rfl, g6⟩
  have G6 := Lib.hid (G5.out.trans g6)
  clear g6
  go_wp2_with fail
  go_ret
  exact ⟨rfl, G6.out⟩
end Go.Proofs.Ytbmlfhiffooilaa
