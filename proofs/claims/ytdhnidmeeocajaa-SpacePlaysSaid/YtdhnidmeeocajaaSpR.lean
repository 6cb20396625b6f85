/- The document's space in memory: where a block stands, Free, Use, Give. No condition. -/
import Derived.Test.YtdhnidmeeocajaaSpH
import Derived.Test.YtdhnidmeeocajaaSpI
import Derived.Deep.RegionLaw
namespace Go.Proofs.Ytdhnidmeeocajaa
open Go.RowKit Go.Shelf

/-- The document's space at block r, its list v. -/
structure RfM (w : World) (r : Nat) (S : SpV) (L : List Int) (v : Value) : Prop where
  ok : S.ok
  lst : Lst S L
  blk : Blk w r 45 #[.int .i64 (S.a : Nat), .int .i64 (S.n : Nat), v]
  own : OwnI w v L
  ne : ∀ b, v.ownBlock = some b → b ≠ r
section
variable {w w' : World} {r : Nat} {S : SpV} {L : List Int} {v : Value}
theorem RfM.keep {X : Nat → Prop} (h : RfM w r S L v) (hf : Frm X w w') (h1 : ¬ X r) (h2 : ∀ b, v.ownBlock = some b → ¬ X b) : RfM w' r S L v :=
  ⟨h.ok, h.lst, h.blk.keep hf h1, h.own.keep hf h2, h.ne⟩
theorem RfM.keepF (h : RfM w r S L v) (hf : Frm (fun _ => False) w w') : RfM w' r S L v := h.keep hf (fun h => h) (fun _ _ h => h)
end
theorem atL_at {L : List Int} {z : Int} (hn : L.Nodup) (i : Nat) (h : i < L.length) (e : L[i] = z) : atL L z = (i : Int) := by
  unfold atL
  subst e
  rw [if_pos (List.getElem_mem h), hn.idxOf_getElem]
theorem atL_no {L : List Int} {z : Int} (h : ∀ j (hj : j < L.length), L[j] ≠ z) : atL L z = -1 := by
  unfold atL
  rw [if_neg (fun hm => by
    obtain ⟨j, hj, e⟩ := List.getElem_of_mem hm
    exact h j hj e)]
set_option maxRecDepth 100000 in
set_option maxHeartbeats 2000000 in
theorem rfat_any (r : Nat) (S : SpV) (L : List Int) (v : Value) (z : Int) (w : World) (h : RfM w r S L v) :
    Calls Try.prog 32 #[.pointer (some ⟨r, 0, none⟩), .int .i64 z] w fun e w' => e = .returned (.int .i64 (atL L z)) ∧ w = w' := by
  have c2 := h.blk.cell 2 rfl
  obtain ⟨a, cap, rfl, hc1, hc2⟩ := h.own.slice
  unfold maxLen at hc2
  have hl := h.lst.le h.ok
  have H := Lib.hid h
  clear h
  go_enter Try.func32, Try.ntmps32
  go_wp2_with fail
  go_loop [5] (fun i => ∃ k : Nat, k ≤ L.length ∧ i = .int .i64 (k : Nat) ∧ ∀ j (hj : j < L.length), j < k → L[j] ≠ z) (fun i => L.length - (intOf i).toNat)
  case atStart => exact ⟨0, Nat.zero_le _, rfl, fun j _ h => by omega⟩
  case round =>
    obtain ⟨k, hk, rfl, hno⟩ := hrel
    by_cases hlt : k < L.length
    · have hki : (k : Int) < (L.length : Int) := by omega
      obtain ⟨g, off, rfl, hg, c0⟩ := Zs.at H.out.own.zs k hlt
      by_cases he : L[k] = z
      · have hat := atL_at H.out.lst.nd k hlt he
        have HAT := Lib.hid hat
        rw [he] at c0
        have hq : (z == z) = true := by simp
        clear hat hno he
        go_wp2_with fail
        go_ret
        exact ⟨by rw [HAT.out]; rfl, rfl⟩
      · have hq : (L[k] == z) = false := by rw [beq_eq_false_iff_ne]; exact he
        have HNO := Lib.hid (show ∀ j (hj : j < L.length), j < k + 1 → L[j] ≠ z from fun j hj hjk => by
          by_cases e : j = k
          · subst e; exact he
          · exact hno j hj (by omega))
        clear hno he
        go_wp2_with fail
        go_round
        case rel => exact ⟨k + 1, by omega, by go_num, HNO.out⟩
        case measure => simp [intOf]; omega
    · have hat : atL L z = -1 := atL_no fun j hj => hno j hj (by omega)
      have hkn : ¬ (k : Int) < (L.length : Int) := by omega
      have HAT := Lib.hid hat
      clear hat hno
      go_wp2_with fail
      go_ret
      exact ⟨by rw [HAT.out]; rfl, rfl⟩
theorem atL_free {S : SpV} {L : List Int} {k : Nat} (h : Lst S L) (hf : S.F k = true) : atL L (k : Int) = -1 := by
  unfold atL
  rw [if_neg (fun hm => by
    have := ((h.mem k).1 hm).2.2
    rw [hf] at this
    cases this)]
theorem atL_used {S : SpV} {L : List Int} {k : Nat} (h : Lst S L) (h1 : S.a ≤ k) (h2 : k < S.n) (hf : S.F k = false) : ∃ i : Nat, atL L (k : Int) = (i : Int) ∧ i < L.length ∧ L.erase (k : Int) = L.take i ++ L.drop (i + 1) := by
  have hm : (k : Int) ∈ L := (h.mem k).2 ⟨h1, h2, hf⟩
  refine ⟨L.idxOf (k : Int), ?_, List.idxOf_lt_length_iff.2 hm, eraseZ_idx L _⟩
  unfold atL
  rw [if_pos hm]
set_option maxRecDepth 100000 in
set_option maxHeartbeats 2000000 in
theorem rffree_any (r : Nat) (S : SpV) (L : List Int) (v : Value) (z : Int) (w : World) (h : RfM w r S L v) :
    Calls Try.prog 16 #[.pointer (some ⟨r, 0, none⟩), .int .i64 z] w fun e w' => e = .returned (.bool (S.isF z)) ∧ w = w' := by
  have c0 := h.blk.cell 0 rfl
  have c1 := h.blk.cell 1 rfl
  have ha := rfat_any r S L v z w h
  unfold SpV.isF
  by_cases h1 : z < (S.a : Int)
  · have hi : S.inn z = false := by unfold SpV.inn; rw [decide_eq_false (by omega : ¬ (S.a : Int) ≤ z), Bool.false_and]
    rw [hi, Bool.false_and]
    have h1' : ¬ (S.a : Int) ≤ z := by omega
    clear ha h hi
    go_enter Try.func16, Try.ntmps16
    go_wp2_with fail
    go_ret
    exact ⟨rfl, rfl⟩
  · have h1' : (S.a : Int) ≤ z := by omega
    by_cases h2 : z < (S.n : Int)
    · have hi : S.inn z = true := by unfold SpV.inn; rw [decide_eq_true h1', decide_eq_true h2]; rfl
      obtain ⟨k, rfl, k1, k2⟩ := SpV.inn_nat hi
      rw [hi, Int.toNat_natCast, Bool.true_and]
      cases hf : S.F k with
      | true =>
        rw [atL_free h.lst hf] at ha
        have HA := Lib.hid ha
        clear ha h hi hf h1
        go_enter Try.func16, Try.ntmps16
        go_wp2_with fail
        refine HA.out.mono ?_
        rintro e w1 ⟨rfl, rfl⟩
        go_wp2_with fail
        go_ret
        exact ⟨rfl, rfl⟩
      | false =>
        obtain ⟨i, hi2, hil, _⟩ := atL_used h.lst k1 k2 hf
        rw [hi2] at ha
        have HA := Lib.hid ha
        have hin : ¬ (i : Int) < 0 := by omega
        clear ha h hi hf hi2 h1
        go_enter Try.func16, Try.ntmps16
        go_wp2_with fail
        refine HA.out.mono ?_
        rintro e w1 ⟨rfl, rfl⟩
        go_wp2_with fail
        go_ret
        exact ⟨rfl, rfl⟩
    · have hi : S.inn z = false := by unfold SpV.inn; rw [decide_eq_false h2, Bool.and_false]
      rw [hi, Bool.false_and]
      clear ha h hi h1
      go_enter Try.func16, Try.ntmps16
      go_wp2_with fail
      go_ret
      exact ⟨rfl, rfl⟩
/-- What a call leaves. -/
def RfTo (r : Nat) (v : Value) (S' : SpV) (w w' : World) : Prop :=
  ∃ L' v', RfM w' r S' L' v' ∧ Frm (fun k => k = r ∨ v.ownBlock = some k) w w' ∧ ∀ b, v'.ownBlock = some b → v.ownBlock = some b ∨ w.heap.size ≤ b
theorem RfTo.same {r : Nat} {S : SpV} {L : List Int} {v : Value} {w : World} (h : RfM w r S L v) : RfTo r v S w w := ⟨L, v, h, Frm.refl _ _, fun _ hb => .inl hb⟩
/-- A block more is used. -/
theorem RfM.app {w w2 : World} {r k : Nat} {S : SpV} {L : List Int} {v v' : Value} (h : RfM w r S L v) (k1 : S.a ≤ k) (k2 : k < S.n) (hf : S.F k = true)
    (hrow : OwnI w2 v' (L ++ [(k : Int)])) (hgr : (w.alloc (.cells #[.int .i64 (k : Nat)] 3)).grownBy w2 v.ownBlock) (hnew : ∀ b, v'.ownBlock = some b → v.ownBlock = some b ∨ (w.alloc (.cells #[.int .i64 (k : Nat)] 3)).heap.size ≤ b) :
    RfTo r v (S.flip k) w (w2.setCell ⟨r, 2, none⟩ v') := by
  have hlt := h.blk.lt
  have ga : Frm (fun k => v.ownBlock = some k) w w2 := (((Frm.refl _ w).alloc _)).grown hgr (fun _ _ e => e)
  have hb2 := h.blk.keep ga (fun e => h.ne r e rfl)
  have hne : ∀ b, v'.ownBlock = some b → b ≠ r := fun b hb e => by
    rcases hnew b hb with h1 | h1
    · exact h.ne b h1 e
    · simp at h1; omega
  refine ⟨_, v', ⟨SpV.flip_ok h.ok k1 k2, h.lst.use k1 k2 hf, hb2.set 2 v', Row.setOther hrow (fun e => hne r e rfl) v', hne⟩, (ga.mono fun _ _ h => .inr h).setCell (p := ⟨r, 2, none⟩) (fun _ => .inl rfl) _, fun b hb => ?_⟩
  rcases hnew b hb with h1 | h1
  · exact .inl h1
  · simp at h1; exact .inr (by omega)
set_option maxRecDepth 100000 in
set_option maxHeartbeats 2000000 in
theorem rfuse_any (r : Nat) (S : SpV) (L : List Int) (v : Value) (z : Int) (w : World) (h : RfM w r S L v) :
    Calls Try.prog 23 #[.pointer (some ⟨r, 0, none⟩), .int .i64 z] w fun e w' => e = .returned (.int .i64 ((S.use z).2 : Nat)) ∧ RfTo r v (S.use z).1 w w' := by
  have c0 := h.blk.cell 0 rfl
  have c1 := h.blk.cell 1 rfl
  have c2 := h.blk.cell 2 rfl
  have f2 := h.blk.free 2
  have ha := rfat_any r S L v z w h
  have H := Lib.hid h
  by_cases h1 : z < (S.a : Int)
  · have hi : S.inn z = false := by unfold SpV.inn; rw [decide_eq_false (by omega : ¬ (S.a : Int) ≤ z), Bool.false_and]
    rw [use_out hi]
    clear ha h hi
    go_enter Try.func23, Try.ntmps23
    go_wp2_with fail
    go_ret
    exact ⟨rfl, RfTo.same H.out⟩
  · have h1' : (S.a : Int) ≤ z := by omega
    by_cases h2 : z < (S.n : Int)
    · have hi : S.inn z = true := by unfold SpV.inn; rw [decide_eq_true h1', decide_eq_true h2]; rfl
      obtain ⟨k, rfl, k1, k2⟩ := SpV.inn_nat hi
      have h3 : ¬ (S.n : Int) ≤ (k : Int) := by omega
      cases hf : S.F k with
      | true =>
        rw [use_free k1 k2 hf]
        rw [atL_free h.lst hf] at ha
        have HA := Lib.hid ha
        obtain ⟨v', w2, hrun, hrow, hgr, hnew⟩ := append_is (w.alloc (.cells #[.int .i64 (k : Nat)] 3)) v _ L [(k : Int)] (h.own.keepF ((Frm.refl _ w).alloc _)) (Zs.lit w (k : Int)) (by have := h.lst.le h.ok; simp; omega)
        have hE := h.app k1 k2 hf hrow hgr hnew
        have hb2 := h.blk.keep (((Frm.refl (fun k => v.ownBlock = some k) w).alloc (.cells #[.int .i64 (k : Nat)] 3)).grown hgr (fun _ _ e => e)) (fun e => h.ne r e rfl)
        have d2 := hb2.cell 2 rfl
        have g2 := hb2.free 2
        have HE := Lib.hid hE
        have Hrun := Lib.hid hrun
        obtain ⟨a', cap', rfl, _, _⟩ := hrow.slice
        rw [show (L ++ [(k : Int)]).length = L.length + 1 by simp] at HE Hrun
        clear ha h hi hf h1 hrow hgr hnew hE hb2 hrun
        go_enter Try.func23, Try.ntmps23
        go_wp2_with fail
        refine HA.out.mono ?_
        rintro e w1 ⟨rfl, rfl⟩
        go_wp2_with (first | (at_builtin; refine Lib.wpList_append_run _ rfl _ _ _ _ rfl _ _ rfl rfl _ _ Hrun.out ?_) | fail)
        go_ret
        exact ⟨rfl, HE.out⟩
      | false =>
        rw [use_used k1 k2 hf]
        obtain ⟨i, hi2, hil, _⟩ := atL_used h.lst k1 k2 hf
        rw [hi2] at ha
        have HA := Lib.hid ha
        have hin : (0 : Int) ≤ (i : Int) := by omega
        clear ha h hi hf hi2 h1
        go_enter Try.func23, Try.ntmps23
        go_wp2_with fail
        refine HA.out.mono ?_
        rintro e w1 ⟨rfl, rfl⟩
        go_wp2_with fail
        go_ret
        exact ⟨rfl, RfTo.same H.out⟩
    · have hi : S.inn z = false := by unfold SpV.inn; rw [decide_eq_false h2, Bool.and_false]
      have h3 : (S.n : Int) ≤ z := by omega
      rw [use_out hi]
      clear ha h hi h1
      go_enter Try.func23, Try.ntmps23
      go_wp2_with fail
      go_ret
      exact ⟨rfl, RfTo.same H.out⟩
set_option maxRecDepth 100000 in
set_option maxHeartbeats 2000000 in
theorem rfmay_any (a n : Int) (w : World) : Calls Try.prog 10 #[.int .i64 a, .int .i64 n] w fun e w' => e = .returned (.bool (maySp a n)) ∧ w = w' := by
  unfold maySp
  by_cases h1 : 0 ≤ a
  · rw [decide_eq_true h1, Bool.true_and]
    by_cases h2 : a < n
    · rw [decide_eq_true h2, Bool.true_and]
      by_cases h3 : n ≤ 2048
      · rw [decide_eq_true h3]
        go_enter Try.func10, Try.ntmps10
        go_wp2_with fail
        go_ret
        exact ⟨rfl, rfl⟩
      · rw [decide_eq_false h3]
        go_enter Try.func10, Try.ntmps10
        go_wp2_with fail
        go_ret
        exact ⟨rfl, rfl⟩
    · rw [decide_eq_false h2, Bool.false_and]
      go_enter Try.func10, Try.ntmps10
      go_wp2_with fail
      go_ret
      exact ⟨rfl, rfl⟩
  · rw [decide_eq_false h1, Bool.false_and, Bool.false_and]
    go_enter Try.func10, Try.ntmps10
    go_wp2_with fail
    go_ret
    exact ⟨rfl, rfl⟩
end Go.Proofs.Ytdhnidmeeocajaa
