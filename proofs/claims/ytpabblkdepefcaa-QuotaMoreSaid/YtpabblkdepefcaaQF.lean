/- What the statements on quotas ask: an item, the chapter's items, whether these go, whether items may be gone through. No condition. -/
import Derived.Test.YtpabblkdepefcaaQE
namespace Go.Proofs.Ytpabblkdepefcaa
open Go.RowKit Go.Shelf

theorem srtQ_is {l s : List QG} (h : Apt l) (ha : AscQ s) (hp : s.Perm l) : srtQ l = s := asc_unique (srtQ_asc h) ha ((srtQ_perm l).trans hp.symm)
/-- A slice of items that was written out. -/
theorem QL.lit (w : World) (t : TypeId) (l : List QI) (cs : Array Value) (n : Nat) (hn : n = l.length) (h0 : 0 < n) (hm : n ≤ 1000) (hcs : cs.toList = flat qic l) : QL (w.alloc (.cells cs t)) (.slice (some ⟨w.heap.size, 0, none⟩) n n) l := by
  subst hn
  refine ⟨flat_len qic qic_len l, _, l.length, rfl, Nat.le_refl _, by unfold maxLen; omega, .inr ⟨_, 0, rfl, by simp, fun j hj => ?_⟩⟩
  have hb := Blk.alloc w t cs
  have hl : cs.toList.length = l.length * 4 := by rw [hcs, flat_len qic qic_len]
  have hj' : j < cs.size := by simp at hl; omega
  rw [Nat.zero_add, hb.cell j (v := cs[j]) (by simp [hj']), ← hcs]
  simp [hj']
theorem us_lit (w : World) (l : List Nat) (n : Nat) (hn : n = l.length) (hm : n ≤ 1000) (cs : Array Value) (hcs : cs.toList = u32s l) : Ids (w.alloc (.cells cs 34)) (.slice (some ⟨w.heap.size, 0, none⟩) n n) l := by
  subst hn
  refine ⟨by simp [u32s], _, l.length, rfl, Nat.le_refl _, by unfold maxLen; omega, .inr ⟨_, 0, rfl, by simp, fun j hj => ?_⟩⟩
  have hb := Blk.alloc w 34 cs
  have hl : cs.toList.length = l.length := by rw [hcs]; simp [u32s]
  have hj' : j < cs.size := by simp at hl; omega
  rw [Nat.zero_add, hb.cell j (v := cs[j]) (by simp [hj']), ← hcs]
  simp [hj']
theorem Ids.nilQ (w : World) : Ids w (.slice none 0 0) [] := Own.ids (Row.nil_ w 1)
theorem QL.nilQ (w : World) : QL w (.slice none 0 0) [] := QOwn.read (Row.nil_ w 4)
set_option maxHeartbeats 1000000 in
theorem item_any (p : ByteArray) (i t s : Int) (w : World) : Calls Try.prog 19 #[.string p, .int .u32 i, .int .u32 t, .int .i64 s] w fun e w' => e = .returned (.agg #[.string p, .int .u32 i, .int .u32 t, .int .i64 s]) ∧ Frm (fun _ => False) w w' := by
  have g0 := (Frm.refl (fun _ => False) w).alloc (.cells #[.string p, .int .u32 i, .int .u32 t, .int .i64 s] 36)
  have b0 := Blk.alloc w 36 #[.string p, .int .u32 i, .int .u32 t, .int .i64 s]
  have c0 := b0.cell 0 rfl
  have c1 := b0.cell 1 rfl
  have c2 := b0.cell 2 rfl
  have c3 := b0.cell 3 rfl
  go_enter Try.func19, Try.ntmps19
  go_wp2_with fail
  refine bodyPost_ret (v := .agg #[.string p, .int .u32 i, .int .u32 t, .int .i64 s]) (by simp [results, Try.results19, go_sem, c0, c1, c2, c3]) rfl ?_
  exact ⟨rfl, g0⟩
/-- May items be gone through? -/
def fewB (l : List QI) : Bool := decide (l.length ≤ 30) && l.all fun x => decide (x.path.length ≤ 100)
theorem fewB_len {l : List QI} (h : fewB l = true) : l.length ≤ 30 := by
  unfold fewB at h
  rw [Bool.and_eq_true] at h
  exact of_decide_eq_true h.1
theorem fewB_no {l : List QI} {k : Nat} (h : k < l.length) (hp : 100 < l[k].path.length) : fewB l = false := by
  unfold fewB
  rw [Bool.and_eq_false_iff]
  right
  rw [List.all_eq_false]
  exact ⟨l[k], List.getElem_mem h, by simp; omega⟩
theorem fewB_big {l : List QI} (h : 30 < l.length) : fewB l = false := by
  unfold fewB
  rw [decide_eq_false (by omega)]; rfl
theorem fewB_yes {l : List QI} (h : l.length ≤ 30) (hp : ∀ j (h : j < l.length), l[j].path.length ≤ 100) : fewB l = true := by
  unfold fewB
  rw [decide_eq_true h, Bool.true_and, List.all_eq_true]
  intro x hx
  obtain ⟨j, hj, rfl⟩ := List.getElem_of_mem hx
  exact decide_eq_true (hp j hj)
set_option maxRecDepth 100000 in
set_option maxHeartbeats 2000000 in
theorem few_any (v : Value) (l : List QI) (w : World) (h : QL w v l) : Calls Try.prog 7 #[v] w fun e w' => e = .returned (.bool (fewB l)) ∧ Frm (fun _ => False) w w' := by
  obtain ⟨a, cap, rfl, hc1, hc2⟩ := h.slice
  unfold maxLen at hc2
  have HL := Lib.hid h
  obtain ⟨b, hb⟩ : ∃ b, fewB l = b := ⟨_, rfl⟩
  rw [hb]
  have HB := Lib.hid hb
  clear h hb
  go_enter Try.func7, Try.ntmps7
  go_wp2_with fail
  go_loopw [3] (fun i wr => ∃ k : Nat, k ≤ l.length ∧ k ≤ 40 ∧ i = .int .i64 k ∧ Frm (fun _ => False) w wr ∧ Hid (∀ j (h : j < l.length), j < k → l[j].path.length ≤ 100)) (fun i _ => 40 - (intOf i).toNat)
  case atStart => exact ⟨0, Nat.zero_le _, by omega, rfl, Frm.refl _ _, fun j _ h => by omega⟩
  case round =>
    obtain ⟨k, hk, hk40, rfl, g1, HP⟩ := hrel
    have G1 := Lib.hid g1
    clear g1
    by_cases hlt : k < l.length
    · have hki : (k : Int) < (l.length : Int) := by omega
      have hk0 : (0 : Int) ≤ (k : Int) := by omega
      by_cases h40 : k < 40
      · have hk4 : (k : Int) < 40 := by omega
        obtain ⟨g, off, rfl, hg, e0, e1, e2, e3⟩ := (HL.out.keepF G1.out).elem k hlt
        obtain ⟨p, hp⟩ : ∃ p, l[k].path = p := ⟨_, rfl⟩
        rw [hp] at e0
        have HPP := Lib.hid hp
        clear hp e1 e2 e3
        by_cases hp : 100 < p.length
        · have hb : b = false := by rw [← HB.out]; exact fewB_no hlt (by rw [HPP.out]; exact hp)
          have hp2 : (100 : Int) < (p.length : Int) := by omega
          have hp3 : 100 < (bs p).size := hp
          have HBB := Lib.hid hb
          clear hb
          go_wp2_with fail
          go_ret
          exact ⟨by rw [HBB.out]; rfl, G1.out⟩
        · have hp2 : ¬ (100 : Int) < (p.length : Int) := by omega
          have hp3 : ¬ 100 < (bs p).size := hp
          go_wp2_with fail
          go_roundw
          case rel => exact ⟨k + 1, hlt, h40, by go_num, G1.out, fun j hj hj2 => by
            rcases Nat.lt_or_ge j k with h | h
            · exact HP.out j hj h
            · obtain rfl : j = k := by omega
              rw [HPP.out]; omega⟩
          case measure => simp [intOf]; omega
      · have hk4 : ¬ (k : Int) < 40 := by omega
        have h30 : ¬ (l.length : Int) ≤ 30 := by omega
        have hb : b = false := by rw [← HB.out]; exact fewB_big (by omega)
        have HBB := Lib.hid hb
        clear hb
        go_wp2_with fail
        go_ret
        exact ⟨by rw [HBB.out]; rfl, G1.out⟩
    · obtain rfl : k = l.length := by omega
      by_cases h30 : l.length ≤ 30
      · have h30z : (l.length : Int) ≤ 30 := by omega
        have h40z : (l.length : Int) < 40 := by omega
        have hb : b = true := by rw [← HB.out]; exact fewB_yes h30 (fun j hj => HP.out j hj hj)
        have HBB := Lib.hid hb
        clear hb
        go_wp2_with fail
        go_ret
        exact ⟨by rw [HBB.out]; rfl, G1.out⟩
      · have h30z : ¬ (l.length : Int) ≤ 30 := by omega
        have hb : b = false := by rw [← HB.out]; exact fewB_big (by omega)
        have HBB := Lib.hid hb
        clear hb
        go_wp2_with fail
        go_ret
        exact ⟨by rw [HBB.out]; rfl, G1.out⟩
set_option maxRecDepth 100000 in
set_option maxHeartbeats 4000000 in
theorem goes_any (v wv : Value) (l : List QI) (most : Int) (ok : Bool) (want : List Nat) (w : World) (h : QL w v l) (hw : Ids w wv want) (h40 : l.length < 40) (hm : -9223372036854775808 ≤ most ∧ most ≤ 9223372036854775807) :
    Calls Try.prog 18 #[v, .int .i64 most, .bool ok, wv] w fun e w' => e = .returned (.bool (decide (pruneQ l most = (want, ok)))) ∧ Frm (fun _ => False) w w' := by
  have HP := Lib.hid (prune_any v l most w h h40 hm)
  have HW := Lib.hid hw
  obtain ⟨aw, cw, rfl, hcw1, hcw2⟩ := hw.slice
  unfold maxLen at hcw2
  obtain ⟨I, b, hI⟩ : ∃ I b, pruneQ l most = (I, b) := ⟨_, _, rfl⟩
  rw [hI]
  have HII := Lib.hid hI
  clear hI hw h
  go_enter Try.func18, Try.ntmps18
  go_wp2_with fail
  refine HP.out.mono ?_
  rintro e w1 ⟨u, rfl, ho, g1, hn⟩
  rw [HII.out] at ho ⊢
  obtain ⟨au, cu, rfl, hcu1, hcu2⟩ := Own.sliceQ ho
  unfold maxLen at hcu2
  have HO := Lib.hid (And.intro ho g1)
  clear ho g1 hn
  by_cases hb : b = ok
  · subst hb
    by_cases hl : I.length = want.length
    · have hlz : ((I.length : Int) != (want.length : Int)) = false := by simp; omega
      have hlz2 : ((I.length : Int) == (want.length : Int)) = true := by simp; omega
      have HLL := Lib.hid hl
      clear hl
      go_wp2_with fail
      go_loopw [11] (fun i wr => ∃ k : Nat, k ≤ want.length ∧ i = .int .i64 k ∧ Frm (fun _ => False) w1 wr ∧ Hid (I.take k = want.take k)) (fun i _ => want.length - (intOf i).toNat)
      case atStart => exact ⟨0, Nat.zero_le _, rfl, Frm.refl _ _, by rw [List.take_zero, List.take_zero]; rfl⟩
      case round =>
        obtain ⟨k, hk, rfl, g2, HT⟩ := hrel
        by_cases hlt : k < want.length
        · have hki : (k : Int) < (want.length : Int) := by omega
          have hk0 : (0 : Int) ≤ (k : Int) := by omega
          have hkI : k < I.length := by rw [HLL.out]; exact hlt
          have hkIz : (k : Int) < (I.length : Int) := by omega
          obtain ⟨g, off, rfl, hg, e0⟩ := ((Own.ids HO.out.1).keepF g2).at k hkI
          obtain ⟨g', off', rfl, hg', e1⟩ := ((HW.out.keepF HO.out.2).keepF g2).at k hlt
          have t1 : I.take (k + 1) = I.take k ++ [I[k]] := List.take_succ_eq_append_getElem hkI
          have t2 : want.take (k + 1) = want.take k ++ [want[k]] := List.take_succ_eq_append_getElem hlt
          have t3 : I[k] = (I.take (k + 1))[k]'(by rw [List.length_take]; omega) := by rw [List.getElem_take]
          have t4 : want[k] = (want.take (k + 1))[k]'(by rw [List.length_take]; omega) := by rw [List.getElem_take]
          obtain ⟨x, hx⟩ : ∃ x, I[k] = x := ⟨_, rfl⟩
          obtain ⟨y, hy⟩ : ∃ y, want[k] = y := ⟨_, rfl⟩
          rw [hx] at e0 t1
          rw [hy] at e1 t2
          have TT := Lib.hid (And.intro t1 (And.intro t2 (And.intro hx hy)))
          have G2 := Lib.hid g2
          clear t1 t2 t3 t4 hx hy g2
          by_cases hxy : x = y
          · have hq : ((x : Int) != (y : Int)) = false := by rw [hxy]; simp
            have hq2 : ((x : Int) == (y : Int)) = true := by rw [hxy]; simp
            have HXY := Lib.hid hxy
            clear hxy
            go_wp2_with fail
            go_quiet (fail)
            go_wp2_with fail
            go_roundw
            case rel => exact ⟨k + 1, hlt, by go_num, G2.out.drewN _, by rw [TT.out.1, TT.out.2.1, HT.out, HXY.out]; rfl⟩
            case measure => simp [intOf]; omega
          · have hq : ((x : Int) != (y : Int)) = true := by simp; omega
            have hq2 : ((x : Int) == (y : Int)) = false := by simp; omega
            have HXY := Lib.hid hxy
            clear hxy
            go_wp2_with fail
            go_quiet (fail)
            go_wp2_with fail
            go_ret
            refine ⟨?_, HO.out.2.trans (G2.out.drewN _)⟩
            rw [decide_eq_false (fun e => HXY.out (by rw [← TT.out.2.2.1, ← TT.out.2.2.2]; exact List.getElem_of_eq (Prod.mk.inj e).1 _))]
            rfl
        · obtain rfl : k = want.length := by omega
          have ht := HT.out
          rw [List.take_length, ← HLL.out, List.take_length] at ht
          have HTT := Lib.hid ht
          clear ht
          go_wp2_with fail
          go_ret
          exact ⟨by rw [HTT.out, decide_eq_true rfl]; rfl, HO.out.2.trans g2⟩
    · have hlz : ((I.length : Int) != (want.length : Int)) = true := by simp; omega
      have hlz2 : ((I.length : Int) == (want.length : Int)) = false := by simp; omega
      go_wp2_with fail
      go_ret
      refine ⟨?_, HO.out.2⟩
      rw [decide_eq_false (fun e => hl (by rw [(Prod.mk.inj e).1]))]
      rfl
  · cases b <;> cases ok <;> first | exact absurd rfl hb | skip
    all_goals
      go_wp2_with fail
      go_ret
      refine ⟨?_, HO.out.2⟩
      rw [decide_eq_false (fun e => hb (Prod.mk.inj e).2)]
      rfl
/-- The chapter's items. -/
def qI (p : UInt8) (i t : Nat) (s : Int) (hi : i ≤ 4294967295 := by decide) (ht : t ≤ 4294967295 := by decide) (hs : -9223372036854775808 ≤ s ∧ s ≤ 9223372036854775807 := by decide) : QI := ⟨[p], i, t, s, by simp, hi, ht, hs⟩
def givenQ : List QI := [qI 97 1 0 5, qI 98 2 1 5, qI 97 3 2 5, qI 97 4 3 5]
theorem givenQ_srt : srtQ givenQ.zipIdx = givenQ.zipIdx := srtQ_is (zip_Apt _ _) (by unfold AscQ; decide) (List.Perm.refl _)
theorem given_20 : pruneQ givenQ 20 = ([], true) := by unfold pruneQ; rw [givenQ_srt]; decide
theorem given_19 : pruneQ givenQ 19 = ([1], true) := by unfold pruneQ; rw [givenQ_srt]; decide
theorem given_10 : pruneQ givenQ 10 = ([1, 3], true) := by unfold pruneQ; rw [givenQ_srt]; decide
theorem given_9 : pruneQ givenQ 9 = ([], false) := by unfold pruneQ; rw [givenQ_srt]; decide
theorem given_flat : flat qic givenQ = [.string ⟨#[97]⟩, .int .u32 1, .int .u32 0, .int .i64 5, .string ⟨#[98]⟩, .int .u32 2, .int .u32 1, .int .i64 5, .string ⟨#[97]⟩, .int .u32 3, .int .u32 2, .int .i64 5, .string ⟨#[97]⟩, .int .u32 4, .int .u32 3, .int .i64 5] := rfl
theorem two_5 : pruneQ [qI 97 2 0 5, qI 97 1 0 5] 5 = ([1], true) := by
  unfold pruneQ
  rw [srtQ_is (zip_Apt _ _) (s := [(qI 97 1 0 5, 1), (qI 97 2 0 5, 0)]) (by unfold AscQ; decide) (List.Perm.swap _ _ _)]
  decide
theorem two_6 : pruneQ [qI 97 1 0 5, qI 97 1 0 6] 6 = ([1], true) := by
  unfold pruneQ
  rw [srtQ_is (zip_Apt _ _) (s := [(qI 97 1 0 5, 0), (qI 97 1 0 6, 1)]) (by unfold AscQ; decide) (List.Perm.refl _)]
  decide
theorem nil_0 : pruneQ [] 0 = ([], true) := by
  unfold pruneQ
  rw [srtQ_is (zip_Apt _ _) (s := []) (by unfold AscQ; decide) (List.Perm.refl _)]
  decide
theorem nil_1 : pruneQ [] (-1) = ([], false) := by
  unfold pruneQ
  rw [srtQ_is (zip_Apt _ _) (s := []) (by unfold AscQ; decide) (List.Perm.refl _)]
  decide
theorem one_0 : pruneQ [qI 97 1 0 (-5)] 0 = ([], true) := by
  unfold pruneQ
  rw [srtQ_is (zip_Apt _ _) (s := [(qI 97 1 0 (-5), 0)]) (by unfold AscQ; decide) (List.Perm.refl _)]
  decide
end Go.Proofs.Ytpabblkdepefcaa
