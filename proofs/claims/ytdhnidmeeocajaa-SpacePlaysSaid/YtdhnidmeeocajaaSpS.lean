/- The document's Take, Give, All, Load, Copy. No condition. -/
import Derived.Test.YtdhnidmeeocajaaSpR
namespace Go.Proofs.Ytdhnidmeeocajaa
open Go.RowKit Go.Shelf

set_option maxRecDepth 100000 in
set_option maxHeartbeats 4000000 in
theorem rftake_any (r : Nat) (S : SpV) (L : List Int) (v : Value) (w : World) (h : RfM w r S L v) :
    Calls Try.prog 29 #[.pointer (some ⟨r, 0, none⟩)] w fun e w' => e = .returned (.tuple #[.int .i64 (S.take.2.1 : Nat), .int .i64 (S.take.2.2 : Nat)]) ∧ RfTo r v S.take.1 w w' := by
  have c0 := h.blk.cell 0 rfl
  have c1 := h.blk.cell 1 rfl
  have c2 := h.blk.cell 2 rfl
  have f2 := h.blk.free 2
  have hlo := h.ok.lo
  have hhi := h.ok.hi
  have H := Lib.hid h
  obtain ⟨T, hT⟩ : ∃ T, S.take = T := ⟨_, rfl⟩
  rw [hT]
  have HT := Lib.hid hT
  clear h hT
  go_enter Try.func29, Try.ntmps29
  go_wp2_with fail
  go_loop [4] (fun i => ∃ k : Nat, S.a ≤ k ∧ k ≤ S.n ∧ i = .int .i64 (k : Nat) ∧ ∀ j, j < k → S.F j = false) (fun i => S.n - (intOf i).toNat)
  case atStart => exact ⟨S.a, Nat.le_refl _, by omega, rfl, fun j hj => by
    cases hf : S.F j with
    | false => rfl
    | true => have := (H.out.ok.fr j hf).1; omega⟩
  case round =>
    obtain ⟨k, hk1, hk2, rfl, hno⟩ := hrel
    by_cases hlt : k < S.n
    · have hki : (k : Int) < (S.n : Int) := by omega
      have ha := rfat_any r S L v (k : Int) w H.out
      cases hf : S.F k with
      | true =>
        rw [atL_free H.out.lst hf] at ha
        have HA := Lib.hid ha
        obtain ⟨l, hl⟩ := SpV.all_least H.out.ok hf hno
        have hT := HT.out
        rw [take_some hl] at hT
        obtain ⟨v', w2, hrun, hrow, hgr, hnew⟩ := append_is (w.alloc (.cells #[.int .i64 (k : Nat)] 3)) v _ L [(k : Int)] (H.out.own.keepF ((Frm.refl _ w).alloc _)) (Zs.lit w (k : Int)) (by have := H.out.lst.le H.out.ok; simp; omega)
        have hE := H.out.app hk1 hlt hf hrow hgr hnew
        have hb2 := H.out.blk.keep (((Frm.refl (fun k => v.ownBlock = some k) w).alloc (.cells #[.int .i64 (k : Nat)] 3)).grown hgr (fun _ _ e => e)) (fun e => H.out.ne r e rfl)
        have d2 := hb2.cell 2 rfl
        have g2 := hb2.free 2
        have HE := Lib.hid hE
        have Hrun := Lib.hid hrun
        have HT2 := Lib.hid hT
        obtain ⟨a', cap', rfl, _, _⟩ := hrow.slice
        rw [show (L ++ [(k : Int)]).length = L.length + 1 by simp] at HE Hrun
        clear ha hl hT hrow hgr hnew hE hb2 hrun hf hno
        go_wp2_with fail
        refine HA.out.mono ?_
        rintro e w1 ⟨rfl, rfl⟩
        go_wp2_with (first | (at_builtin; refine Lib.wpList_append_run _ rfl _ _ _ _ rfl _ _ rfl rfl _ _ Hrun.out ?_) | fail)
        go_ret2
        rw [← HT2.out]
        exact ⟨rfl, HE.out⟩
      | false =>
        obtain ⟨i, hi2, hil, _⟩ := atL_used H.out.lst hk1 hlt hf
        rw [hi2] at ha
        have HA := Lib.hid ha
        have hin : ¬ (i : Int) < 0 := by omega
        have HNO := Lib.hid (show ∀ j, j < k + 1 → S.F j = false from fun j hj => by
          by_cases e : j = k
          · subst e; exact hf
          · exact hno j (by omega))
        clear ha hi2 hf hno
        go_wp2_with fail
        refine HA.out.mono ?_
        rintro e w1 ⟨rfl, rfl⟩
        go_wp2_with fail
        go_round
        case rel => exact ⟨k + 1, by omega, by omega, by go_num, HNO.out⟩
        case measure => simp [intOf]; omega
    · have hal : S.all = [] := SpV.all_none H.out.ok fun j => by
        by_cases hj : j < S.n
        · exact hno j (by omega)
        · cases hf : S.F j with
          | false => rfl
          | true => have := (H.out.ok.fr j hf).2; omega
      have hT := HT.out
      rw [take_none hal] at hT
      have HT2 := Lib.hid hT
      have hkn : ¬ (k : Int) < (S.n : Int) := by omega
      clear hal hT hno
      go_wp2_with fail
      go_ret2
      rw [← HT2.out]
      exact ⟨rfl, RfTo.same H.out⟩
theorem Zs.cut {w : World} {a : Option Addr} {cap : Nat} {L : List Int} (h : Zs w (.slice a L.length cap) L) (i : Nat) (hi : i ≤ L.length) (hc : L.length ≤ cap) : Zs w (.slice a i cap) (L.take i) := by
  have := Sl.take h i cap hi (by omega) (Nat.le_refl _)
  unfold Zs
  rw [List.length_take, Nat.min_eq_left hi]
  have e : (zcs L).take (i * 1) = zcs (L.take i) := by simp [zcs, List.map_take]
  rwa [e] at this
theorem Zs.rest {w : World} {g off cap : Nat} {L : List Int} (h : Zs w (.slice (some ⟨g, off, none⟩) L.length cap) L) (i : Nat) (hi : i ≤ L.length) (hc : ¬ cap = i) : Zs w (.slice (some ⟨g, off + i, none⟩) (L.length - i) (cap - i)) (L.drop i) := by
  have := Sl.drop h i hi
  rw [if_neg hc] at this
  unfold Zs
  rw [List.length_drop]
  have e : (zcs L).drop (i * 1) = zcs (L.drop i) := by simp [zcs, List.map_drop]
  rw [e] at this
  have e2 : (some (⟨g, off, none⟩ : Addr)).map (·.add (i * 1)) = some ⟨g, off + i, none⟩ := by
    unfold Addr.add
    by_cases h0 : i = 0
    · subst h0; simp
    · simp [h0]
  rwa [e2] at this
theorem Zs.rest0 {w : World} {a : Option Addr} {cap : Nat} {L : List Int} (hc : cap ≤ maxLen) (i : Nat) (hi : L.length = i) : Zs w (.slice a (L.length - i) (cap - i)) (L.drop i) := by
  have e : L.drop i = [] := List.drop_of_length_le (by omega)
  rw [e, show L.length - i = 0 by omega]
  exact Sl.nil_ w 1 a _ (by omega)
set_option maxRecDepth 100000 in
set_option maxHeartbeats 4000000 in
theorem rfgive_any (r : Nat) (S : SpV) (L : List Int) (v : Value) (z : Int) (w : World) (h : RfM w r S L v) :
    Calls Try.prog 28 #[.pointer (some ⟨r, 0, none⟩), .int .i64 z] w fun e w' => e = .returned (.int .i64 ((S.give z).2 : Nat)) ∧ RfTo r v (S.give z).1 w w' := by
  have c0 := h.blk.cell 0 rfl
  have c1 := h.blk.cell 1 rfl
  have c2 := h.blk.cell 2 rfl
  have f2 := h.blk.free 2
  have ha := rfat_any r S L v z w h
  have H := Lib.hid h
  by_cases h1 : z < (S.a : Int)
  · have hi : S.inn z = false := by unfold SpV.inn; rw [decide_eq_false (by omega : ¬ (S.a : Int) ≤ z), Bool.false_and]
    rw [give_out hi]
    clear ha h hi
    go_enter Try.func28, Try.ntmps28
    go_wp2_with fail
    go_ret
    exact ⟨rfl, RfTo.same H.out⟩
  · have h1' : (S.a : Int) ≤ z := by omega
    by_cases h2 : z < (S.n : Int)
    · have hi : S.inn z = true := by unfold SpV.inn; rw [decide_eq_true h1', decide_eq_true h2]; rfl
      obtain ⟨k, rfl, k1, k2⟩ := SpV.inn_nat hi
      have h3 : ¬ (S.n : Int) ≤ (k : Int) := by omega
      cases hf : S.F k with
      | true =>
        rw [give_free k1 k2 hf]
        rw [atL_free h.lst hf] at ha
        have HA := Lib.hid ha
        clear ha h hi hf h1
        go_enter Try.func28, Try.ntmps28
        go_wp2_with fail
        refine HA.out.mono ?_
        rintro e w1 ⟨rfl, rfl⟩
        go_wp2_with fail
        go_ret
        exact ⟨rfl, RfTo.same H.out⟩
      | false =>
        rw [give_used k1 k2 hf]
        obtain ⟨i, hi2, hil, her⟩ := atL_used h.lst k1 k2 hf
        rw [hi2] at ha
        have HA := Lib.hid ha
        have hin : ¬ (i : Int) < 0 := by omega
        have hL := h.lst.le h.ok
        obtain ⟨a, cap, rfl, hc1, hc2⟩ := h.own.slice
        have hc2' := hc2
        unfold maxLen at hc2'
        obtain ⟨gb, off, rfl, _, _⟩ := Zs.at h.own.zs i hil
        have hzs := h.own.zs
        have hz1 := Zs.cut hzs i (by omega) hc1
        obtain ⟨v1, w2, hrun1, hrow1, hgr1, hnew1⟩ := append_is w (.slice none 0 0) _ [] (L.take i) (OwnI.nil_ w) hz1 (by rw [List.length_take]; simp; omega)
        rw [List.nil_append] at hrow1
        have g1 : Frm (fun _ => False) w w2 := (Frm.refl _ w).grown hgr1 (fun _ _ e => by cases e)
        have n1 : ∀ b, v1.ownBlock = some b → w.heap.size ≤ b := fun b hb => (hnew1 b hb).elim (fun h => by cases h) id
        obtain ⟨a1, cap1, rfl, _, _⟩ := hrow1.slice
        have hib : i < 3000 := by omega
        have b2 := h.blk.keep g1 (fun h => h)
        have e2 := b2.cell 2 rfl
        have H1 := Lib.hid (And.intro hrow1 (And.intro g1 n1))
        have HW := Lib.hid (And.intro b2 her)
        have Hrun1 := Lib.hid hrun1
        have hz2 : ∃ vr, vr = (if cap = i + 1 then Value.slice (some ⟨gb, off, none⟩) (L.length - (i + 1)) (cap - (i + 1)) else .slice (some ⟨gb, off + (i + 1), none⟩) (L.length - (i + 1)) (cap - (i + 1))) ∧ Zs w2 vr (L.drop (i + 1)) := by
          refine ⟨_, rfl, ?_⟩
          by_cases hcap : cap = i + 1
          · rw [if_pos hcap]
            have hll : L.length = i + 1 := by omega
            exact Zs.rest0 hc2 (i + 1) hll
          · rw [if_neg hcap]
            have hll : i + 1 ≤ L.length := hil
            exact Zs.rest (hzs.keepF g1) (i + 1) hll hcap
        obtain ⟨vr, hvr, hz2⟩ := hz2
        obtain ⟨v3, w3, hrun2, hrow2, hgr2, hnew2⟩ := append_is w2 _ vr (L.take i) (L.drop (i + 1)) hrow1 hz2 (by rw [List.length_take, List.length_drop]; omega)
        have hlr : (L.take i).length = i := by rw [List.length_take]; omega
        have hE : RfTo r (.slice (some ⟨gb, off, none⟩) L.length cap) (S.flip k) w (w3.setCell ⟨r, 2, none⟩ v3) := by
          have hrl := h.blk.lt
          have g2 : Frm (fun q => w.heap.size ≤ q) w2 w3 := (Frm.refl _ w2).grown hgr2 (fun q hq e => n1 q e)
          have b3 := b2.keep g2 (by omega)
          have n3 : ∀ b, v3.ownBlock = some b → w.heap.size ≤ b := fun b hb => (hnew2 b hb).elim (n1 b) (fun h => by have := g1.size; omega)
          rw [← her] at hrow2
          exact ⟨_, v3, ⟨SpV.flip_ok h.ok k1 k2, h.lst.give k1 k2 hf, b3.set 2 v3, Row.setOther hrow2 (fun e => by have := n3 r e; omega) v3, fun b hb e => by have := n3 b hb; omega⟩,
            ((g1.mono fun _ _ h => h.elim).next g2 (fun q hq e => by omega)).setCell (p := ⟨r, 2, none⟩) (fun _ => .inl rfl) _, fun b hb => .inr (n3 b hb)⟩
        have g2 : Frm (fun q => w.heap.size ≤ q) w2 w3 := (Frm.refl _ w2).grown hgr2 (fun q hq e => n1 q e)
        have b3 := b2.keep g2 (by have := h.blk.lt; omega)
        have e3 := b3.cell 2 rfl
        have f3 := b3.free 2
        have HE := Lib.hid hE
        have Hrun2 := Lib.hid hrun2
        obtain ⟨a3, cap3, rfl, _, _⟩ := hrow2.slice
        obtain ⟨len3, hlen3⟩ : ∃ q, (L.take i ++ L.drop (i + 1)).length = q := ⟨_, rfl⟩
        rw [hlen3] at HE Hrun2
        obtain ⟨len1, hlen1⟩ : ∃ q, (L.take i).length = q := ⟨_, rfl⟩
        rw [hlen1] at Hrun1 Hrun2
        have hii : (i : Int) ≤ (cap : Int) := by omega
        have hii1 : (i : Int) + 1 ≤ (cap : Int) := by omega
        have hii2 : (i : Int) + 1 ≤ (L.length : Int) := by omega
        have h0i : (0 : Int) ≤ (i : Int) := by omega
        by_cases hcap : cap = i + 1
        · rw [if_pos hcap] at hvr
          subst hvr
          subst hcap
          rw [Nat.sub_self] at Hrun2
          have hll : L.length = i + 1 := by omega
          have hll0 : L.length - (i + 1) = 0 := by omega
          rw [hll0] at Hrun2
          clear hi hf hi2 h1 ha hrun1 hrow1 hgr1 hnew1 g1 n1 b2 hz2 hrun2 hrow2 hgr2 hnew2 hE g2 b3 her hlen3 hlen1 hlr hzs hz1 h
          go_enter Try.func28, Try.ntmps28
          go_wp2_with fail
          refine HA.out.mono ?_
          rintro e w1 ⟨rfl, rfl⟩
          go_wp2_with (first | (at_builtin; refine Lib.wpList_append_run _ rfl _ _ _ _ rfl (.slice none 0 0) (.slice (some ⟨gb, off, none⟩) i _) rfl rfl _ _ Hrun1.out ?_) | (at_builtin; refine Lib.wpList_append_run _ rfl _ _ _ _ rfl (.slice a1 len1 cap1) (.slice (some ⟨gb, off, none⟩) 0 0) rfl rfl _ _ Hrun2.out ?_) | fail)
          go_ret
          exact ⟨rfl, HE.out⟩
        · rw [if_neg hcap] at hvr
          subst hvr
          clear hi hf hi2 h1 ha hrun1 hrow1 hgr1 hnew1 g1 n1 b2 hz2 hrun2 hrow2 hgr2 hnew2 hE g2 b3 her hlen3 hlen1 hlr hzs hz1 h
          go_enter Try.func28, Try.ntmps28
          go_wp2_with fail
          refine HA.out.mono ?_
          rintro e w1 ⟨rfl, rfl⟩
          go_wp2_with (first | (at_builtin; refine Lib.wpList_append_run _ rfl _ _ _ _ rfl (.slice none 0 0) (.slice (some ⟨gb, off, none⟩) i _) rfl rfl _ _ Hrun1.out ?_) | (at_builtin; refine Lib.wpList_append_run _ rfl _ _ _ _ rfl (.slice a1 len1 cap1) (.slice (some ⟨gb, off + (i + 1), none⟩) (L.length - (i + 1)) (cap - (i + 1))) rfl rfl _ _ Hrun2.out ?_) | fail)
          go_ret
          exact ⟨rfl, HE.out⟩
    · have hi : S.inn z = false := by unfold SpV.inn; rw [decide_eq_false h2, Bool.and_false]
      have h3 : (S.n : Int) ≤ z := by omega
      rw [give_out hi]
      clear ha h hi h1
      go_enter Try.func28, Try.ntmps28
      go_wp2_with fail
      go_ret
      exact ⟨rfl, RfTo.same H.out⟩
end Go.Proofs.Ytdhnidmeeocajaa
