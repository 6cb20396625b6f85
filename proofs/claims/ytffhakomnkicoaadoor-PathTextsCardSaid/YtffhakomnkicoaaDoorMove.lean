/- What the library's Equal, Clone, Grow, Concat on slices of texts, and path.Within, Up, Move answer. No condition. -/
import Derived.Test.YtffhakomnkicoaaDoorNames
import Derived.Test.YtffhakomnkicoaaDoorPathE
import Derived.Lib.AppendZeros
import Derived.Deep.RegionHeld3
import Derived.Deep.QuietTactic
import Derived.BigQuiet
import Derived.IntWalk
namespace Go.Proofs.YtffhakomnkicoaaDoor
open Go.RowKit

theorem val_int {k : IntKind} {a b : Int} (h : a = b) : Value.int k a = .int k b := by rw [h]
theorem ret_int {k : IntKind} {a b : Int} (h : a = b) : Ending.returned (.int k a) = .returned (.int k b) := by rw [h]
theorem ret_bool {a b : Bool} (h : a = b) : Ending.returned (.bool a) = .returned (.bool b) := by rw [h]
theorem Frm.cellG {w w' : World} {a : Addr} {v : Value} (h : Frm (fun _ => False) w w') (hc : w.cell? a = some v) : w'.cell? a = some v :=
  (World.cell?_of_block (h.block _ (World.block_lt_of_cell? w a hc) fun e => e)).trans hc

theorem nilS (w : World) (a : Option Addr) (n c n' c' : Nat) : (binOp .eql 23 (.slice a n c) (.slice none n' c')).run Tryd.prog w = .ok (.bool a.isNone) w := Lib.run_eql_slice_nil w _ _ a n c n' c' Tryd.underlying23
theorem OwnS.empty (w : World) : OwnS (w.alloc (.cells #[] 9)) (.slice (some ⟨w.heap.size, 0, none⟩) 0 0) [] :=
  Row.made w 9 1 0 0 [] #[] rfl (Nat.le_refl _) (by decide) rfl rfl
set_option maxRecDepth 100000 in
set_option maxHeartbeats 1000000 in
theorem clones_any (v : Value) (l : List (List UInt8)) (w : World) (h : Strs w v l) (hb : l.length ≤ 1000000) : Calls Tryd.prog 49 #[v] w (NewS l w) := by
  obtain ⟨a, cap, rfl, hc1, hc2⟩ := h.slice
  have hq := nilS
  cases a with
  | none =>
    have hl : l = [] := by
      rcases Nat.eq_zero_or_pos l.length with h0 | h0
      · exact List.eq_nil_of_length_eq_zero h0
      · obtain ⟨_, _, e, _⟩ := h.at 0 h0; cases e
    have Hl := Lib.hid hl
    clear hl
    go_enter Tryd.func49, Tryd.ntmps49
    go_wp2
    go_ret
    exact ⟨.slice none 0 0, rfl, by rw [Hl.out]; exact OwnS.nil_ _, Frm.refl _ _, fun g hg => by cases hg⟩
  | some ad =>
    have h1 := h.keepF ((Frm.refl _ w).alloc (.cells #[] 9))
    obtain ⟨v', w', hrun, hrow, hg, ho⟩ := append_strs _ _ _ [] l (OwnS.empty w) h1 (by simp; omega)
    have Hrun := Lib.hid hrun
    clear hrun
    go_enter Tryd.func49, Tryd.ntmps49
    go_wp2_with (at_builtin; refine Lib.wpList_append_run _ rfl _ _ _ _ rfl _ _ rfl rfl _ _ Hrun.out ?_)
    go_ret
    refine ⟨v', rfl, hrow, ((Frm.refl _ w).alloc _).grown hg (fun k hk e => by have e2 : w.heap.size = k := Option.some.inj e; omega), fun g hg => ?_⟩
    rcases ho g hg with e | e
    · cases e; exact Nat.le_refl _
    · simp at e; omega

set_option maxRecDepth 100000 in
set_option maxHeartbeats 1000000 in
theorem grows_nil (n : Nat) (w : World) (hb : n ≤ 1000000) : Calls Tryd.prog 67 #[.slice none 0 0, .int .i64 n] w (NewS [] w) := by
  by_cases h0 : 0 < n
  · have h0i : (0 : Int) < n := by omega
    obtain ⟨i0, hi, hz0, hz1, hz2⟩ := info_parts Tryd.info9s
    have hrun := Lib.run_append_nil_zeros (P := Tryd.prog) w 23 3 23 9 i0 (.string ⟨#[]⟩) .i64 .i64 Tryd.underlying23 Tryd.underlying3 hi hz0 n h0 (by rw [hz1]; decide) (by omega) (by rw [hz2]; omega)
    have hge := grownCap_ge w n 0 9
    have hmax := grownCap_le_maxLen w n 0 9 (by unfold maxLen; omega)
    have hr : Row (w.drew.alloc (.cells (Builtin.zeroCells #[.string ⟨#[]⟩] n ++ Builtin.zeroCells #[.string ⟨#[]⟩] (grownCap w n 0 9 - n)) 9)) 1 (.slice (some ⟨w.heap.size, 0, none⟩) 0 (grownCap w n 0 9)) 0 [] :=
      Row.made w.drew 9 1 0 _ [] _ rfl (Nat.zero_le _) hmax (by simp [Builtin.zeroCells]; omega) (by simp)
    have hf : Fr w (w.drew.alloc (.cells (Builtin.zeroCells #[.string ⟨#[]⟩] n ++ Builtin.zeroCells #[.string ⟨#[]⟩] (grownCap w n 0 9 - n)) 9)) := (Frm.refl _ w).drew.alloc _
    have hcz : grownCap w n 0 9 ≠ 0 := by omega
    change (Builtin.append_ #[23, 3] 23 #[.slice none 0 0, .int .i64 n]).run Tryd.prog w = .ok (.slice (some ⟨w.heap.size, 0, none⟩) n (grownCap w n 0 9)) (w.drew.alloc (.cells (Builtin.zeroCells #[.string ⟨#[]⟩] n ++ Builtin.zeroCells #[.string ⟨#[]⟩] (grownCap w n 0 9 - n)) 9)) at hrun
    generalize w.drew.alloc (.cells (Builtin.zeroCells #[.string ⟨#[]⟩] n ++ Builtin.zeroCells #[.string ⟨#[]⟩] (grownCap w n 0 9 - n)) 9) = w1 at *
    generalize grownCap w n 0 9 = cap at *
    have Hrun := Lib.hid hrun
    clear hrun hz0 hz1 hz2 hi
    go_enter Tryd.func67, Tryd.ntmps67
    go_wp2_with (at_builtin; refine Lib.wpList_append_run _ rfl _ _ _ _ rfl _ _ rfl rfl _ _ Hrun.out ?_)
    go_ret
    exact ⟨_, rfl, hr, hf, fun g hg => by cases hg; exact Nat.le_refl _⟩
  · obtain rfl : n = 0 := by omega
    go_enter Tryd.func67, Tryd.ntmps67
    go_wp2
    go_ret
    exact ⟨.slice none 0 0, rfl, OwnS.nil_ _, Frm.refl _ _, fun g hg => by cases hg⟩

/-- The first k lists, one behind the other. -/
def cat {α : Type} (LL : List (List α)) (k : Nat) : List α := (LL.take k).flatten
theorem cat_zero {α : Type} (LL : List (List α)) : cat LL 0 = [] := rfl
theorem cat_succ {α : Type} (LL : List (List α)) (k : Nat) (h : k < LL.length) : cat LL (k + 1) = cat LL k ++ LL[k] := by
  unfold cat; rw [List.take_succ_eq_append_getElem h]; simp only [List.flatten_append, List.flatten_cons, List.flatten_nil, List.append_nil]
theorem cat_all {α : Type} (LL : List (List α)) : cat LL LL.length = LL.flatten := by unfold cat; rw [List.take_length]
theorem cat_le {α : Type} (LL : List (List α)) (k : Nat) : (cat LL k).length ≤ LL.flatten.length := by
  have h : LL.flatten = cat LL k ++ (LL.drop k).flatten := by unfold cat; rw [← List.flatten_append, List.take_append_drop]
  rw [h, List.length_append]; omega

set_option maxRecDepth 100000 in
set_option maxHeartbeats 2000000 in
theorem concats_any (q cap : Nat) (LL : List (List (List UInt8))) (vs : List Value) (w : World) (hv : vs.length = LL.length) (hq : q < w.heap.size) (hcap : LL.length ≤ cap ∧ cap ≤ 1000000) (hc : ∀ k (h : k < LL.length), w.cell? ⟨q, k, none⟩ = some vs[k])
    (hi : ∀ k (h : k < LL.length), Strs w vs[k] LL[k]) (hb : LL.flatten.length ≤ 1000000) :
    Calls Tryd.prog 50 #[.slice (some ⟨q, 0, none⟩) LL.length cap] w (NewS LL.flatten w) := by
  obtain ⟨hcap1, hcap2⟩ := hcap
  have Hc := Lib.hid hc
  have Hi := Lib.hid hi
  clear hc hi
  have c0 : (0 : Int) = ((cat LL 0).length : Int) := rfl
  have C0 := Lib.hid c0
  clear c0
  go_enter Tryd.func50, Tryd.ntmps50
  go_wp2
  go_loopw [3, 11] (fun n i wr => ∃ k : Nat, k ≤ LL.length ∧ i = .int .i64 k ∧ n = .int .i64 (cat LL k).length ∧ w = wr) (fun _ i _ => LL.length - (intOf i).toNat)
  case atStart => exact ⟨0, Nat.zero_le _, rfl, rfl, rfl⟩
  case round =>
    obtain ⟨k, hk, rfl, rfl, rfl⟩ := hrel
    by_cases hlt : k < LL.length
    · have ck := Hc.out k hlt
      have ik := Hi.out k hlt
      obtain ⟨a, c, hvk, hc1, hc2⟩ := ik.slice
      rw [hvk] at ck
      have Hvk := Lib.hid hvk
      clear hvk
      have hs := cat_succ LL k hlt
      have hle := cat_le LL (k + 1)
      rw [hs, List.length_append] at hle
      have Hs := Lib.hid hs
      clear hs ik
      go_wp2
      go_roundw
      case rel => exact ⟨k + 1, by omega, by go_num, val_int (by rw [Hs.out, List.length_append]; omega), trivial⟩
      case measure => simp [intOf]; omega
    · obtain rfl : k = LL.length := by omega
      have hle := cat_le LL LL.length
      go_wp2_with fail
      refine (grows_nil _ w (by omega)).mono ?_
      rintro e w1 ⟨v1, rfl, o1, f1, n1⟩
      go_wp2
      have hlenq : (cat LL LL.length).length ≤ 1000000 := by omega
      go_loopw [6, 27] (fun v i wr => ∃ k : Nat, k ≤ LL.length ∧ i = .int .i64 k ∧ OwnS wr v (cat LL k) ∧ Frm (fun _ => False) w wr ∧ ∀ g, v.ownBlock = some g → w.heap.size ≤ g) (fun _ i _ => LL.length - (intOf i).toNat)
      case atStart => exact ⟨0, Nat.zero_le _, rfl, o1, f1, n1⟩
      case round =>
        obtain ⟨k, hk, rfl, o2, f2, n2⟩ := hrel
        by_cases hlt : k < LL.length
        · have ck := Hc.out k hlt
          have ik := Hi.out k hlt
          have ck2 : wr.cell? ⟨q, k, none⟩ = some vs[k] := (World.cell?_of_block (a := ⟨q, k, none⟩) (f2.block q hq (fun h => h))).trans ck
          have ik2 := ik.keepF f2
          have hs := cat_succ LL k hlt
          have hle := cat_le LL (k + 1)
          rw [hs, List.length_append] at hle
          obtain ⟨v', w', hrun, hrow, hg, ho⟩ := append_strs wr _ _ _ _ o2 ik2 (by omega)
          rw [← hs] at hrow
          have Hrun := Lib.hid hrun
          clear hrun ck ik hs
          go_wp2_with (at_builtin; refine Lib.wpList_append_run _ rfl _ _ _ _ rfl _ _ rfl rfl _ _ Hrun.out ?_)
          go_roundw
          case rel =>
            refine ⟨k + 1, by omega, by go_num, hrow, f2.grown hg (fun j hj e => by have := n2 j e; omega), fun g hg2 => ?_⟩
            rcases ho g hg2 with e | e
            · exact n2 g e
            · exact Nat.le_trans f2.size e
          case measure => simp [intOf]; omega
        · obtain rfl : k = LL.length := by omega
          rw [cat_all] at o2
          go_wp2
          go_ret
          exact ⟨_, rfl, o2, f2, n2⟩

/-- Are two lists of texts the same? -/
theorem equals_any (v u : Value) (l m : List (List UInt8)) (w : World) (h : Strs w v l) (h2 : Strs w u m) :
    Calls Tryd.prog 51 #[v, u] w fun e w' => e = .returned (.bool (decide (l = m))) ∧ Fr w w' := by
  obtain ⟨a, cap, rfl, hc1, hc2⟩ := h.slice
  obtain ⟨b, cap2, rfl, hd1, hd2⟩ := h2.slice
  unfold maxLen at hc2 hd2
  by_cases hlen : l.length = m.length
  · by_cases h0 : l.length = 0
    · have hl : l = [] := List.eq_nil_of_length_eq_zero h0
      have hm : m = [] := List.eq_nil_of_length_eq_zero (by omega)
      subst hl hm
      exact (Tryd.slices_Equal_string_empty a b cap 0 cap2 w (by omega)).mono fun e w' ⟨e1, e2⟩ => ⟨e1, by rw [e2]; exact Frm.refl _ _⟩
    · obtain ⟨g, off, rfl, hg, _⟩ := h.at 0 (by omega)
      obtain ⟨g2, off2, rfl, hg2, _⟩ := h2.at 0 (by omega)
      have hgd : ∀ (l : List (List UInt8)) (j : Nat) (hj : j < l.length), (l.map bs).getD j ByteArray.empty = bs l[j] := fun l j hj => by
        rw [List.getD_eq_getElem?_getD, List.getElem?_map, List.getElem?_eq_getElem hj]; rfl
      have hr := Tryd.slices_Equal_string g off l.length cap g2 off2 m.length cap2 (l.map bs) (m.map bs) w (by simp) (by simp) (by omega) (by omega)
        (fun j hj => by
          have hj' : j < l.length := by simpa using hj
          obtain ⟨_, _, e, _, hc⟩ := h.at j hj'
          cases e
          rw [hc, hgd l j hj'])
        (fun j hj => by
          have hj' : j < m.length := by simpa using hj
          obtain ⟨_, _, e, _, hc⟩ := h2.at j hj'
          cases e
          rw [hc, hgd m j hj'])
      have he : decide ((l.map bs).take l.length = (m.map bs).take m.length) = decide (l = m) := by
        rw [List.take_of_length_le (by simp), List.take_of_length_le (by simp)]
        refine decide_eq_decide.2 ⟨fun e => ?_, fun e => by rw [e]⟩
        exact (List.map_inj_right (fun _ _ e => bs_inj e)).1 e
      rw [he] at hr
      exact hr.mono fun e w' ⟨e1, q, e2⟩ => ⟨e1, by rw [e2]; exact (Frm.refl _ w).drewN q⟩
  · have hne : decide (l = m) = false := decide_eq_false fun e => hlen (by rw [e])
    rw [hne]
    exact (Tryd.slices_Equal_string_lens a b l.length cap m.length cap2 w hlen).mono fun e w' ⟨e1, e2⟩ => ⟨e1, by rw [e2]; exact Frm.refl _ _⟩

theorem within_eq (a b : List (List UInt8)) : within a b = (decide (a.length ≤ b.length) && decide (a = b.take a.length)) := by
  unfold within
  rw [Bool.eq_iff_iff]
  simp only [decide_eq_true_eq, Bool.and_eq_true]
  constructor
  · rintro ⟨t, rfl⟩
    exact ⟨by simp, by rw [List.take_left]⟩
  · rintro ⟨_, h⟩
    exact ⟨b.drop a.length, by rw [show a ++ b.drop a.length = b.take a.length ++ b.drop a.length by rw [← h]]; exact List.take_append_drop _ _⟩
set_option maxRecDepth 100000 in
set_option maxHeartbeats 1000000 in
theorem within_any (v u : Value) (a b : List (List UInt8)) (w : World) (h : Strs w v a) (h2 : Strs w u b) :
    Calls Tryd.prog 28 #[v, u] w fun e w' => e = .returned (.bool (within a b)) ∧ Fr w w' := by
  rw [within_eq]
  obtain ⟨x, cap, rfl, hc1, hc2⟩ := h.slice
  obtain ⟨y, cap2, rfl, hd1, hd2⟩ := h2.slice
  unfold maxLen at hc2 hd2
  by_cases hlen : a.length ≤ b.length
  · have he := equals_any _ _ _ _ w h (h2.ahead a.length hlen)
    have e1 : decide (a.length ≤ b.length) = true := by simpa using hlen
    rw [e1, Bool.true_and]
    have li : (a.length : Int) ≤ b.length := by omega
    have li2 : (a.length : Int) ≤ cap2 := by omega
    generalize decide (a = b.take a.length) = q at *
    have He := Lib.hid he
    clear he e1
    go_enter Tryd.func28, Tryd.ntmps28
    go_wp2_with fail
    refine He.out.mono ?_
    rintro e w1 ⟨rfl, f1⟩
    go_wp2_with fail
    go_ret
    exact ⟨rfl, f1⟩
  · have e1 : decide (a.length ≤ b.length) = false := by simpa using hlen
    rw [e1, Bool.false_and]
    have li : (b.length : Int) < a.length := by omega
    clear e1
    go_enter Tryd.func28, Tryd.ntmps28
    go_wp2_with fail
    go_ret
    exact ⟨rfl, Frm.refl _ _⟩

theorem Strs.congr {w : World} {a : Option Addr} {n c : Nat} {l m : List (List UInt8)} (h : Strs w (.slice a n c) l) (e : l = m) : Strs w (.slice a n c) m := by rw [← e]; exact h
set_option maxRecDepth 100000 in
set_option maxHeartbeats 1000000 in
theorem move_any (v1 v2 v3 : Value) (l a b : List (List UInt8)) (w : World) (h1 : Strs w v1 l) (h2 : Strs w v2 a) (h3 : Strs w v3 b) (hl : l.length ≤ 1000) (hb : b.length ≤ 1000) :
    Calls Tryd.prog 25 #[v1, v2, v3] w (NewS (move l a b) w) := by
  have hw := within_any v2 v1 a l w h2 h1
  obtain ⟨x1, cap1, rfl, hc1, hc1'⟩ := h1.slice
  obtain ⟨x2, cap2, rfl, hc2, hc2'⟩ := h2.slice
  obtain ⟨x3, cap3, rfl, hc3, hc3'⟩ := h3.slice
  unfold maxLen at hc1' hc2' hc3'
  by_cases hp : a <+: l
  · have e1 : within a l = true := by unfold within; simpa using hp
    have e2 : move l a b = [b, l.drop a.length].flatten := by unfold move; rw [if_pos hp]; simp
    have hle := hp.length_le
    rw [e1] at hw
    rw [e2]
    have hB := h1.behind a.length hle
    have Hw := Lib.hid hw
    have HB := Lib.hid hB
    have H3 := Lib.hid h3
    have li : (a.length : Int) ≤ l.length := by omega
    clear hw hB e1 e2 h3 h1 h2 hp
    have key : ∀ (w1 : World) (y : Option Addr) (n c : Nat), Fr w w1 → Strs w (.slice y n c) (l.drop a.length) → Calls Tryd.prog 50 #[.slice (some ⟨w1.heap.size, 0, none⟩) 2 2] (w1.alloc (.cells #[.slice x3 b.length cap3, .slice y n c] 23)) (NewS [b, l.drop a.length].flatten (w1.alloc (.cells #[.slice x3 b.length cap3, .slice y n c] 23))) := fun w1 y n c f hy => by
      have hbk := Blk.alloc w1 23 #[.slice x3 b.length cap3, .slice y n c]
      have f2 := f.alloc (.cells #[.slice x3 b.length cap3, .slice y n c] 23)
      refine concats_any w1.heap.size 2 [b, l.drop a.length] [.slice x3 b.length cap3, .slice y n c] _ rfl (by simp) ⟨Nat.le_refl _, by omega⟩ (fun k hk => ?_) (fun k hk => ?_) (by simp; omega)
      · match k, hk with
        | 0, _ => exact hbk.cell 0 rfl
        | 1, _ => exact hbk.cell 1 rfl
      · match k, hk with
        | 0, _ => exact H3.out.keepF f2
        | 1, _ => exact hy.keepF f2
    have Key := Lib.hid key
    clear key
    by_cases hcap : cap1 = a.length
    · rw [if_pos hcap] at HB
      subst hcap
      go_enter Tryd.func25, Tryd.ntmps25
      go_wp2_with fail
      refine Hw.out.mono ?_
      rintro e w1 ⟨rfl, f1⟩
      go_wp2_with fail
      have H0 : Strs w (.slice x1 0 0) (l.drop a.length) := by
        have := HB.out
        rwa [show l.length - a.length = 0 by omega, Nat.sub_self] at this
      refine (Key.out w1 _ _ _ f1 H0).mono ?_
      rintro e w2 ⟨v', rfl, o2, f2, n2⟩
      go_wp2_with fail
      go_ret
      have f12 := (f1.alloc (.cells #[.slice x3 b.length cap3, .slice x1 0 0] 23)).trans f2
      exact ⟨_, rfl, o2, f12, fun g hg => Nat.le_trans (f1.alloc (.cells #[.slice x3 b.length cap3, .slice x1 0 0] 23)).size (n2 g hg)⟩
    · rw [if_neg hcap] at HB
      go_enter Tryd.func25, Tryd.ntmps25
      go_wp2_with fail
      refine Hw.out.mono ?_
      rintro e w1 ⟨rfl, f1⟩
      go_wp2_with fail
      have H0 := HB.out
      refine (Key.out w1 _ _ _ f1 H0).mono ?_
      rintro e w2 ⟨v', rfl, o2, f2, n2⟩
      go_wp2_with fail
      go_ret
      have f12 := (f1.alloc (.cells #[.slice x3 b.length cap3, .slice (Option.map (fun x => x.add a.length) x1) (l.length - a.length) (cap1 - a.length)] 23)).trans f2
      exact ⟨_, rfl, o2, f12, fun g hg => Nat.le_trans (f1.alloc (.cells #[.slice x3 b.length cap3, .slice (Option.map (fun x => x.add a.length) x1) (l.length - a.length) (cap1 - a.length)] 23)).size (n2 g hg)⟩
  · have e1 : within a l = false := by unfold within; simpa using hp
    have e2 : move l a b = l := by unfold move; rw [if_neg hp]
    rw [e1] at hw
    rw [e2]
    have Hw := Lib.hid hw
    have H1 := Lib.hid h1
    clear hw e1 e2 h3 h1 h2 hp
    go_enter Tryd.func25, Tryd.ntmps25
    go_wp2_with fail
    refine Hw.out.mono ?_
    rintro e w1 ⟨rfl, f1⟩
    go_wp2_with fail
    refine (clones_any _ l _ (H1.out.keepF f1) (by omega)).mono ?_
    rintro e w2 ⟨v', rfl, o2, f2, n2⟩
    go_wp2_with fail
    go_ret
    exact ⟨_, rfl, o2, f1.trans f2, fun g hg => Nat.le_trans f1.size (n2 g hg)⟩
/-- Up's answer. -/
def UpTo (l : List (List UInt8)) (w : World) (e : Ending) (w' : World) : Prop := ∃ v', e = .returned (.tuple #[v', .string (bs (l.getLast?.getD []))]) ∧ OwnS w' v' l.dropLast ∧ Fr w w' ∧ ∀ g, v'.ownBlock = some g → w.heap.size ≤ g
set_option maxRecDepth 100000 in
set_option maxHeartbeats 1000000 in
theorem up_any (v : Value) (l : List (List UInt8)) (w : World) (h : Strs w v l) (hl : l.length ≤ 1000) : Calls Tryd.prog 26 #[v] w (UpTo l w) := by
  obtain ⟨a, cap, rfl, hc1, hc2⟩ := h.slice
  unfold maxLen at hc2
  by_cases h0 : l = []
  · subst h0
    go_enter Tryd.func26, Tryd.ntmps26
    go_wp2_with fail
    go_ret2
    exact ⟨_, rfl, OwnS.nil_ _, Frm.refl _ _, fun g hg => by cases hg⟩
  · have hp : 0 < l.length := by
      rcases Nat.eq_zero_or_pos l.length with e | e
      · exact absurd (List.eq_nil_of_length_eq_zero e) h0
      · exact e
    obtain ⟨k, hk⟩ : ∃ k, l.length = k + 1 := ⟨l.length - 1, by omega⟩
    obtain ⟨g, off, rfl, hg, cg⟩ := h.at k (by omega)
    have hA := h.ahead k (by omega)
    have e1 : l.take k = l.dropLast := by rw [List.dropLast_eq_take, hk]; rfl
    have e2 : l.getLast?.getD [] = l[k] := by
      have : l.length - 1 = k := by omega
      simp only [List.getLast?_eq_getElem?, this, List.getElem?_eq_getElem (show k < l.length by omega), Option.getD_some]
    rw [e1] at hA
    have HA := Lib.hid hA
    unfold UpTo
    rw [e2]
    have hkl : l.dropLast.length = k := by rw [← e1]; simp; omega
    generalize l[k] = last at *
    rw [hk] at hc1
    rw [hk]
    have hlc : (k : Int) + 1 ≤ cap := by omega
    have HC := Lib.hid (fun w1 (f : Fr w w1) => clones_any _ l.dropLast w1 (hA.keepF f) (by omega))
    clear hA e1 e2 h0 h hp hk hl hkl
    go_enter Tryd.func26, Tryd.ntmps26
    go_wp2_with fail
    have f0 : Fr w w.drew := (Frm.refl _ w).drew
    have hk1 : k ≤ cap := by omega
    have hk2 : (k : Int) < (k : Int) + 1 := by omega
    have hk3 : (k : Int) ≤ cap := by omega
    go_region_held3 (fun w' => w'.cell? ⟨g, off + k, none⟩ = some (.string (bs last)) ∧ Frm (fun _ => False) w w')
      (((try dsimp only); (try go_split_ands); (repeat' apply And.intro) <;> (first
        | assumption
        | exact Frm.drew (by assumption)
        | exact Frm.cellG gg (by assumption)
        | (refine Frm.trans ?_ gg; assumption)
        | exact Frm.refl _ _
        | go_keep)))
      (first
        | (go_at_call 49; (with_reducible refine Calls.mono (HC.out _ ?_) ?_); (any_goals (first | exact f0 | exact (show (_ ∧ _) by assumption).2)); rintro e ww ⟨v', rfl, oo, gg, nn⟩))
    all_goals
      go_wp2_with fail
      go_ret2
      exact ⟨_, rfl, oo, f0.trans gg, nn⟩
end Go.Proofs.YtffhakomnkicoaaDoor
