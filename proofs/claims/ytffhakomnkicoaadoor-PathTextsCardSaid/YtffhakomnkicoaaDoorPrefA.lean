/- What the document's Within, Same, Up, Move answer. No condition. -/
import Derived.Test.YtffhakomnkicoaaDoorMove
import Derived.Test.YtffhakomnkicoaaDoorConf
namespace Go.Proofs.YtffhakomnkicoaaDoor
open Go.RowKit

theorem within_no {a b : List (List UInt8)} {k : Nat} (ha : k < a.length) (hb : k < b.length) (h : a[k] ≠ b[k]) : within a b = false := by
  unfold within
  rw [decide_eq_false_iff_not]
  rintro ⟨t, rfl⟩
  exact h (by rw [List.getElem_append_left ha])
theorem within_yes {a b : List (List UInt8)} (h : a.take a.length = b.take a.length) : within a b = true := by
  unfold within
  rw [decide_eq_true_eq]
  rw [List.take_length] at h
  rw [h]
  exact List.take_prefix _ _
set_option maxRecDepth 100000 in
set_option maxHeartbeats 1000000 in
theorem rwithin_any (v u : Value) (a b : List (List UInt8)) (w : World) (h : Strs w v a) (h2 : Strs w u b) :
    Calls Tryd.prog 29 #[v, u] w fun e w' => e = .returned (.bool (within a b)) ∧ Fr w w' := by
  obtain ⟨x, cap, rfl, hc1, hc2⟩ := h.slice
  obtain ⟨y, cap2, rfl, hd1, hd2⟩ := h2.slice
  unfold maxLen at hc2 hd2
  obtain ⟨r, hr⟩ : ∃ r, within a b = r := ⟨_, rfl⟩
  have Hr := Lib.hid hr
  rw [hr]
  clear hr
  by_cases hlen : a.length ≤ b.length
  · have li : (a.length : Int) ≤ b.length := by omega
    go_enter Tryd.func29, Tryd.ntmps29
    go_wp2
    go_loopw [5] (fun i wr => ∃ k : Nat, k ≤ a.length ∧ i = .int .i64 k ∧ Fr w wr ∧ Hid (a.take k = b.take k)) (fun i _ => a.length - (intOf i).toNat)
    case atStart => exact ⟨0, Nat.zero_le _, rfl, Frm.refl _ _, Lib.hid rfl⟩
    case round =>
      obtain ⟨k, hk, rfl, g4, ht⟩ := hrel
      by_cases hlt : k < a.length
      · have hlb : k < b.length := by omega
        obtain ⟨b1, o1, rfl, _, c1⟩ := (h.keepF g4).at k hlt
        obtain ⟨b2, o2, rfl, _, c2⟩ := (h2.keepF g4).at k hlb
        have hki : (k : Int) < (a.length : Int) := by omega
        have hkb : (k : Int) < (b.length : Int) := by omega
        have hk0 : (0 : Int) ≤ (k : Int) := by omega
        by_cases he : a[k] = b[k]
        · have hq : ((bs a[k]).toList == (bs b[k]).toList) = true := by rw [str_eq]; simpa using he
          have ht2 : Hid (a.take (k + 1) = b.take (k + 1)) := Lib.hid (by rw [List.take_succ_eq_append_getElem hlt, List.take_succ_eq_append_getElem hlb, ht.out, he])
          clear he
          generalize a[k] = s at *
          generalize b[k] = t at *
          go_wp2_with fail
          go_quiet (fail)
          go_wp2_with fail
          go_roundw
          case rel => exact ⟨k + 1, by omega, by go_num, g4.drewN _, ht2⟩
          case measure => simp [intOf]; omega
        · have hq : ((bs a[k]).toList == (bs b[k]).toList) = false := by rw [str_eq]; simpa using he
          have hw := within_no hlt hlb he
          rw [Hr.out] at hw
          subst hw
          clear he
          generalize a[k] = s at *
          generalize b[k] = t at *
          go_wp2_with fail
          go_quiet (fail)
          go_wp2_with fail
          go_ret
          exact ⟨rfl, g4.drewN _⟩
      · obtain rfl : k = a.length := by omega
        have hw := within_yes ht.out
        rw [Hr.out] at hw
        subst hw
        go_wp2_with fail
        go_ret
        exact ⟨rfl, g4⟩
  · have li : (b.length : Int) < a.length := by omega
    have hw : within a b = false := by
      unfold within
      rw [decide_eq_false_iff_not]
      exact fun hp => hlen hp.length_le
    rw [Hr.out] at hw
    subst hw
    go_enter Tryd.func29, Tryd.ntmps29
    go_wp2_with fail
    go_ret
    exact ⟨rfl, Frm.refl _ _⟩

set_option maxRecDepth 100000 in
set_option maxHeartbeats 1000000 in
theorem rsame_any (v u : Value) (a b : List (List UInt8)) (w : World) (h : Strs w v a) (h2 : Strs w u b) :
    Calls Tryd.prog 17 #[v, u] w fun e w' => e = .returned (.bool (decide (a = b))) ∧ Fr w w' := by
  have hw := rwithin_any v u a b w h h2
  obtain ⟨x, cap, rfl, hc1, hc2⟩ := h.slice
  obtain ⟨y, cap2, rfl, hd1, hd2⟩ := h2.slice
  by_cases hlen : a.length = b.length
  · have e1 : within a b = decide (a = b) := by rw [within_eq, hlen, List.take_length]; simp
    rw [e1] at hw
    generalize decide (a = b) = q at *
    rw [hlen] at hw ⊢
    have Hw := Lib.hid hw
    have li : ((b.length : Int) == b.length) = true := beq_self_eq_true _
    clear hw e1 h h2
    go_enter Tryd.func17, Tryd.ntmps17
    go_wp2_with fail
    refine Hw.out.mono ?_
    rintro e w1 ⟨rfl, f1⟩
    go_wp2_with fail
    go_ret
    exact ⟨rfl, f1⟩
  · have e1 : decide (a = b) = false := decide_eq_false fun e => hlen (by rw [e])
    rw [e1]
    have li : ((a.length : Int) == b.length) = false := by simp; omega
    clear hw e1 h h2
    go_enter Tryd.func17, Tryd.ntmps17
    go_wp2_with fail
    go_ret
    exact ⟨rfl, Frm.refl _ _⟩

set_option maxRecDepth 100000 in
set_option maxHeartbeats 1000000 in
theorem rup_any (v : Value) (l : List (List UInt8)) (w : World) (h : Strs w v l) (hl : l.length ≤ 1000) : Calls Tryd.prog 27 #[v] w (UpTo l w) := by
  obtain ⟨a, cap, rfl, hc1, hc2⟩ := h.slice
  unfold maxLen at hc2
  by_cases h0 : l = []
  · subst h0
    go_enter Tryd.func27, Tryd.ntmps27
    go_wp2_with fail
    go_ret2
    exact ⟨_, rfl, OwnS.nil_ _, Frm.refl _ _, fun g hg => by cases hg⟩
  · have hp : 0 < l.length := by
      rcases Nat.eq_zero_or_pos l.length with e | e
      · exact absurd (List.eq_nil_of_length_eq_zero e) h0
      · exact e
    obtain ⟨k, hk⟩ : ∃ k, l.length = k + 1 := ⟨l.length - 1, by omega⟩
    have hA := h.ahead k (by omega)
    have e1 : l.take k = l.dropLast := by rw [List.dropLast_eq_take, hk]; rfl
    have e2 : l.getLast?.getD [] = l[k] := by
      have : l.length - 1 = k := by omega
      simp only [List.getLast?_eq_getElem?, this, List.getElem?_eq_getElem (show k < l.length by omega), Option.getD_some]
    rw [e1] at hA
    obtain ⟨v', w', hrun, ho, hg, hn⟩ := append_strs w (.slice none 0 0) (.slice a k cap) [] l.dropLast (OwnS.nil_ w) hA (by simp; omega)
    rw [List.nil_append] at ho
    have gl : Fr w w' := (Frm.refl _ w).grown hg (fun k hk e => by cases e)
    obtain ⟨g, off, rfl, hgl, cg⟩ := (h.keepF gl).at k (by omega)
    unfold UpTo
    rw [e2]
    generalize l[k] = last at *
    rw [hk] at hc1
    rw [hk]
    have hlc : (k : Int) + 1 ≤ cap := by omega
    have hk1 : k ≤ cap := by omega
    have hk2 : (k : Int) < (k : Int) + 1 := by omega
    have hk3 : (k : Int) ≤ cap := by omega
    have HR := Lib.hid hrun
    clear hrun hA e1 e2 h0 h hp hk hl
    go_enter Tryd.func27, Tryd.ntmps27
    go_wp2_with (at_builtin; refine Lib.wpList_append_run _ rfl _ _ _ _ rfl _ _ rfl rfl _ _ HR.out ?_)
    go_quiet (fail)
    go_wp2_with fail
    go_ret2
    exact ⟨_, rfl, ho.keep ((Frm.refl (fun _ => False) _).drewN _) (fun _ _ h => h), gl.drewN _, fun g hg => (hn g hg).elim (fun e => by cases e) (fun e => e)⟩

set_option maxRecDepth 100000 in
set_option maxHeartbeats 1000000 in
theorem rmove_any (v1 v2 v3 : Value) (l a b : List (List UInt8)) (w : World) (h1 : Strs w v1 l) (h2 : Strs w v2 a) (h3 : Strs w v3 b) (hl : l.length ≤ 1000) (hb : b.length ≤ 1000) :
    Calls Tryd.prog 30 #[v1, v2, v3] w (NewS (move l a b) w) := by
  have hw := rwithin_any v2 v1 a l w h2 h1
  obtain ⟨x1, cap1, rfl, hc1, hc1'⟩ := h1.slice
  obtain ⟨x2, cap2, rfl, hc2, hc2'⟩ := h2.slice
  obtain ⟨x3, cap3, rfl, hc3, hc3'⟩ := h3.slice
  unfold maxLen at hc1' hc2' hc3'
  by_cases hp : a <+: l
  · have e1 : within a l = true := by unfold within; simpa using hp
    have e2 : move l a b = b ++ l.drop a.length := by unfold move; rw [if_pos hp]
    have hle := hp.length_le
    rw [e1] at hw
    rw [e2]
    have hB := h1.behind a.length hle
    have key : ∀ w1, Fr w w1 → ∃ v' w' v2 w2, (Builtin.append_ #[23, 23] 23 #[.slice none 0 0, .slice x3 b.length cap3]).run Tryd.prog w1 = .ok v' w' ∧
        (Builtin.append_ #[23, 23] 23 #[v', .slice (if cap1 = a.length then x1 else x1.map (·.add a.length)) (l.length - a.length) (cap1 - a.length)]).run Tryd.prog w' = .ok v2 w2 ∧ OwnS w2 v2 (b ++ l.drop a.length) ∧ Fr w1 w2 ∧ ∀ g, v2.ownBlock = some g → w1.heap.size ≤ g := fun w1 f1 => by
      obtain ⟨v', w', hrun, ho, hg, hn⟩ := append_strs w1 (.slice none 0 0) (.slice x3 b.length cap3) [] b (OwnS.nil_ w1) (h3.keepF f1) (by simp; omega)
      rw [List.nil_append] at ho
      have gl : Fr w1 w' := (Frm.refl _ w1).grown hg (fun k hk e => by cases e)
      have nl : ∀ g, v'.ownBlock = some g → w1.heap.size ≤ g := fun g hgv => (hn g hgv).elim (fun e => by cases e) (fun e => e)
      obtain ⟨v2, w2, hrun2, ho2, hg2, hn2⟩ := append_strs w' v' _ b (l.drop a.length) ho (hB.keepF (f1.trans gl)) (by simp; omega)
      exact ⟨v', w', v2, w2, hrun, hrun2, ho2, gl.grown hg2 (fun k hk e => by have := nl k e; omega), fun g hgv => (hn2 g hgv).elim (nl g) (fun e => Nat.le_trans gl.size e)⟩
    have Hw := Lib.hid hw
    have Key := Lib.hid key
    have li : (a.length : Int) ≤ l.length := by omega
    have li2 : (a.length : Int) ≤ cap1 := by omega
    clear hw hB e1 e2 h3 h1 h2 hp key
    by_cases hcap : cap1 = a.length
    · rw [if_pos hcap] at Key
      subst hcap
      have hz : l.length - a.length = 0 := by omega
      rw [hz, Nat.sub_self] at Key
      go_enter Tryd.func30, Tryd.ntmps30
      go_wp2_with fail
      refine Hw.out.mono ?_
      rintro e w1 ⟨rfl, f1⟩
      obtain ⟨v', w', v2, w2, hr1, hr2, ho, hf, hn⟩ := Key.out w1 f1
      have HR1 := Lib.hid hr1
      have HR2 := Lib.hid hr2
      clear hr1 hr2 Key
      go_wp2_with (first | (at_builtin; refine Lib.wpList_append_run _ rfl _ _ _ _ rfl _ _ rfl rfl _ _ HR1.out ?_) | (at_builtin; refine Lib.wpList_append_run _ rfl _ _ _ _ rfl _ _ rfl rfl _ _ HR2.out ?_))
      go_ret
      exact ⟨_, rfl, ho, f1.trans hf, fun g hg => Nat.le_trans f1.size (hn g hg)⟩
    · rw [if_neg hcap] at Key
      go_enter Tryd.func30, Tryd.ntmps30
      go_wp2_with fail
      refine Hw.out.mono ?_
      rintro e w1 ⟨rfl, f1⟩
      obtain ⟨v', w', v2, w2, hr1, hr2, ho, hf, hn⟩ := Key.out w1 f1
      have HR1 := Lib.hid hr1
      have HR2 := Lib.hid hr2
      clear hr1 hr2 Key
      go_wp2_with (first | (at_builtin; refine Lib.wpList_append_run _ rfl _ _ _ _ rfl _ _ rfl rfl _ _ HR1.out ?_) | (at_builtin; refine Lib.wpList_append_run _ rfl _ _ _ _ rfl _ _ rfl rfl _ _ HR2.out ?_))
      go_ret
      exact ⟨_, rfl, ho, f1.trans hf, fun g hg => Nat.le_trans f1.size (hn g hg)⟩
  · have e1 : within a l = false := by unfold within; simpa using hp
    have e2 : move l a b = l := by unfold move; rw [if_neg hp]
    rw [e1] at hw
    rw [e2]
    have key : ∀ w1, Fr w w1 → ∃ v' w', (Builtin.append_ #[23, 23] 23 #[.slice none 0 0, .slice x1 l.length cap1]).run Tryd.prog w1 = .ok v' w' ∧ OwnS w' v' l ∧ Fr w1 w' ∧ ∀ g, v'.ownBlock = some g → w1.heap.size ≤ g := fun w1 f1 => by
      obtain ⟨v', w', hrun, ho, hg, hn⟩ := append_strs w1 (.slice none 0 0) (.slice x1 l.length cap1) [] l (OwnS.nil_ w1) (h1.keepF f1) (by simp; omega)
      rw [List.nil_append] at ho
      have gl : Fr w1 w' := (Frm.refl _ w1).grown hg (fun k hk e => by cases e)
      exact ⟨v', w', hrun, ho, gl, fun g hgv => (hn g hgv).elim (fun e => by cases e) (fun e => e)⟩
    have Hw := Lib.hid hw
    have Key := Lib.hid key
    clear hw e1 e2 h3 h1 h2 hp key
    go_enter Tryd.func30, Tryd.ntmps30
    go_wp2_with fail
    refine Hw.out.mono ?_
    rintro e w1 ⟨rfl, f1⟩
    obtain ⟨v', w', hr1, ho, hf, hn⟩ := Key.out w1 f1
    have HR1 := Lib.hid hr1
    clear hr1 Key
    go_wp2_with (at_builtin; refine Lib.wpList_append_run _ rfl _ _ _ _ rfl _ _ rfl rfl _ _ HR1.out ?_)
    go_ret
    exact ⟨_, rfl, ho, f1.trans hf, fun g hg => Nat.le_trans f1.size (hn g hg)⟩
end Go.Proofs.YtffhakomnkicoaaDoor
