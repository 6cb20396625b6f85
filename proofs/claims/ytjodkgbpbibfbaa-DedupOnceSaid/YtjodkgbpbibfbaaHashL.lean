/- What the library's calls on slices of ids do: Index, Contains, Clone, Grow, Concat. No condition. -/
import Derived.Test.YtjodkgbpbibfbaaHashB
import Derived.Lib.AppendZeros
namespace Go.Proofs.Ytjodkgbpbibfbaa
open Go.RowKit

set_option maxRecDepth 100000 in
set_option maxHeartbeats 1000000 in
theorem index_yes (v : Value) (l : List Nat) (x : Nat) (w : World) (h : Ids w v l) (hm : x ∈ l) :
    Calls Try.prog 62 #[v, .int .u32 x] w fun e w' => e = .returned (.int .i64 (idx x l : Nat)) ∧ ∃ n, w' = w.drewN n := by
  obtain ⟨a, cap, rfl, hc1, hc2⟩ := h.slice
  have hx := idx_lt hm
  have hat := idx_at hm
  have hbef : ∀ j (hj : j < l.length), j < idx x l → l[j] ≠ x := fun j hj h => before_idx hj h
  have Hat := Lib.hid hat
  have Hbef := Lib.hid hbef
  clear hat hbef
  unfold maxLen at hc2
  go_enter Try.func62, Try.ntmps62
  go_wp2
  go_loopw [8] (fun i wr => ∃ k : Nat, k ≤ idx x l ∧ i = .int .i64 k ∧ ∃ m, wr = w.drewN m) (fun i _ => idx x l + 1 - (intOf i).toNat)
  case atStart => exact ⟨0, Nat.zero_le _, rfl, 0, rfl⟩
  case round =>
    obtain ⟨k, hk, rfl, hd⟩ := hrel
    have hk2 : k < l.length := by omega
    have hi : Ids wr (.slice a l.length cap) l := by obtain ⟨m, rfl⟩ := hd; exact h
    have Hm := Lib.hid hd
    clear hd
    obtain ⟨g, off, rfl, hb, c0⟩ := hi.at k hk2
    by_cases e : k = idx x l
    · have he : l[k] = x := by subst e; exact Hat.out
      rw [he] at c0
      have hq : ((x : Int) == (x : Int)) = true := beq_self_eq_true _
      have He := Lib.hid e
      clear e he
      go_wp2
      go_ret
      exact ⟨ret_int (by rw [He.out]), Hm.out⟩
    · have hne : l[k] ≠ x := Hbef.out k hk2 (by omega)
      have hq : ((x : Int) == (l[k] : Int)) = false := by rw [beq_eq_false_iff_ne]; omega
      go_wp2
      go_roundw
      case rel => exact ⟨k + 1, by omega, by go_num, Hm.out⟩
      case measure => simp [intOf]; omega

set_option maxRecDepth 100000 in
set_option maxHeartbeats 1000000 in
theorem index_no (v : Value) (l : List Nat) (x : Nat) (w : World) (h : Ids w v l) (hm : x ∉ l) :
    Calls Try.prog 62 #[v, .int .u32 x] w fun e w' => e = .returned (.int .i64 (-1)) ∧ ∃ n, w' = w.drewN n := by
  obtain ⟨a, cap, rfl, hc1, hc2⟩ := h.slice
  have hbef : ∀ j (hj : j < l.length), l[j] ≠ x := fun j hj e => hm (e ▸ List.getElem_mem hj)
  have Hbef := Lib.hid hbef
  clear hbef hm
  unfold maxLen at hc2
  go_enter Try.func62, Try.ntmps62
  go_wp2
  go_loopw [8] (fun i wr => ∃ k : Nat, k ≤ l.length ∧ i = .int .i64 k ∧ ∃ m, wr = w.drewN m) (fun i _ => l.length - (intOf i).toNat)
  case atStart => exact ⟨0, Nat.zero_le _, rfl, 0, rfl⟩
  case round =>
    obtain ⟨k, hk, rfl, hd⟩ := hrel
    have hi : Ids wr (.slice a l.length cap) l := by obtain ⟨m, rfl⟩ := hd; exact h
    have Hm := Lib.hid hd
    clear hd
    by_cases hlt : k < l.length
    · obtain ⟨g, off, rfl, hb, c0⟩ := hi.at k hlt
      have hne : l[k] ≠ x := Hbef.out k hlt
      have hq : ((x : Int) == (l[k] : Int)) = false := by rw [beq_eq_false_iff_ne]; omega
      go_wp2
      go_roundw
      case rel => exact ⟨k + 1, by omega, by go_num, Hm.out⟩
      case measure => simp [intOf]; omega
    · obtain rfl : k = l.length := by omega
      go_wp2
      go_ret
      exact ⟨rfl, Hm.out⟩

set_option maxHeartbeats 400000 in
theorem contains_any (v : Value) (l : List Nat) (x : Nat) (w : World) (h : Ids w v l) :
    Calls Try.prog 74 #[v, .int .u32 x] w fun e w' => e = .returned (.bool (decide (x ∈ l))) ∧ ∃ n, w' = w.drewN n := by
  by_cases hm : x ∈ l
  · have hd : decide (x ∈ l) = true := by simpa using hm
    rw [hd]
    clear hd
    obtain ⟨a, cap, rfl, hc1, hc2⟩ := h.slice
    have hi0 : 0 ≤ (idx x l : Int) := by omega
    go_enter Try.func74, Try.ntmps74
    go_wp2_with fail
    refine (index_yes _ l x w h hm).mono ?_
    rintro e w1 ⟨rfl, hn⟩
    have Hn := Lib.hid hn
    clear hn
    go_wp2
    go_ret
    exact ⟨ret_bool (by simp), Hn.out⟩
  · have hd : decide (x ∈ l) = false := by simpa using hm
    rw [hd]
    clear hd
    obtain ⟨a, cap, rfl, hc1, hc2⟩ := h.slice
    go_enter Try.func74, Try.ntmps74
    go_wp2_with fail
    refine (index_no _ l x w h hm).mono ?_
    rintro e w1 ⟨rfl, hn⟩
    have Hn := Lib.hid hn
    clear hn
    go_wp2
    go_ret
    exact ⟨rfl, Hn.out⟩

theorem Try.info29 : (Try.prog.info? 29).map (fun i => (i.zero, i.size, i.bytes)) = some (some (.int .u32 0), 1, 4) := by kernel_rfl

/-- Ids are appended. -/
theorem append_ids (w : World) (v x : Value) (l m : List Nat) (h : Own w v l) (hs : Ids w x m) (hb : l.length + m.length ≤ 1000000) :
    ∃ v' w', (Builtin.append_ #[67, 67] 67 #[v, x]).run Try.prog w = .ok v' w' ∧ Own w' v' (l ++ m) ∧ w.grownBy w' v.ownBlock ∧ (∀ g, v'.ownBlock = some g → v.ownBlock = some g ∨ w.heap.size ≤ g) := by
  obtain ⟨i0, hi, hz0, hz1, hz2⟩ := info_parts Try.info29
  obtain ⟨v', w', h1, h2, h3, h4⟩ := run_append_row w 67 67 67 29 i0 (.int .u32 0) 1 4 Try.underlying67 hi hz0 hz1 hz2 rfl h x m.length (u32s m)
    (Sl.src hs Try.underlying67 (u32s_one m)) (by unfold maxLen; omega) (by omega)
  exact ⟨v', w', h1, by unfold Own; rw [List.length_append, u32s_append]; exact h2, h3, h4⟩
theorem Ids.one (w : World) (x : Nat) : Ids (w.alloc (.cells #[.int .u32 x] 29)) (.slice (some ⟨w.heap.size, 0, none⟩) 1 1) [x] := by
  refine ⟨rfl, _, 1, rfl, Nat.le_refl _, by decide, .inr ⟨_, 0, rfl, by simp, fun j hj => ?_⟩⟩
  obtain rfl : j = 0 := by simp at hj; omega
  exact (Blk.alloc w 29 #[.int .u32 x]).cell 0 rfl
theorem Own.nil_ (w : World) : Own w (.slice none 0 0) [] := Row.nil_ w 1
theorem Own.keep {X : Nat → Prop} {w w' : World} {v : Value} {l : List Nat} (h : Own w v l) (hf : Frm X w w') (hn : ∀ g, v.ownBlock = some g → ¬ X g) : Own w' v l := Row.keep h hf hn
/-- A call's answer: these ids, in new memory. -/
def NewIds (l : List Nat) (w : World) (e : Ending) (w' : World) : Prop := ∃ v', e = .returned v' ∧ Own w' v' l ∧ Frm (fun _ => False) w w' ∧ ∀ g, v'.ownBlock = some g → w.heap.size ≤ g

theorem Own.empty (w : World) : Own (w.alloc (.cells #[] 29)) (.slice (some ⟨w.heap.size, 0, none⟩) 0 0) [] :=
  Row.made w 29 1 0 0 [] #[] rfl (Nat.le_refl _) (by decide) rfl rfl
theorem nil32 (w : World) (a : Option Addr) (n c n' c' : Nat) : (binOp .eql 67 (.slice a n c) (.slice none n' c')).run Try.prog w = .ok (.bool a.isNone) w := Lib.run_eql_slice_nil w _ _ a n c n' c' Try.underlying67

set_option maxRecDepth 100000 in
set_option maxHeartbeats 1000000 in
theorem clone_any (v : Value) (l : List Nat) (w : World) (h : Ids w v l) (hb : l.length ≤ 1000000) : Calls Try.prog 65 #[v] w (NewIds l w) := by
  obtain ⟨a, cap, rfl, hc1, hc2⟩ := h.slice
  have hq := nil32
  cases a with
  | none =>
    have hl : l = [] := by
      rcases Nat.eq_zero_or_pos l.length with h0 | h0
      · exact List.eq_nil_of_length_eq_zero h0
      · obtain ⟨_, _, e, _⟩ := h.at 0 h0; cases e
    have Hl := Lib.hid hl
    clear hl
    go_enter Try.func65, Try.ntmps65
    go_wp2
    go_ret
    exact ⟨.slice none 0 0, rfl, by rw [Hl.out]; exact Own.nil_ _, Frm.refl _ _, fun g hg => by cases hg⟩
  | some ad =>
    have h1 := h.keepF ((Frm.refl _ w).alloc (.cells #[] 29))
    obtain ⟨v', w', hrun, hrow, hg, ho⟩ := append_ids _ _ _ [] l (Own.empty w) h1 (by simp; omega)
    have Hrun := Lib.hid hrun
    clear hrun
    go_enter Try.func65, Try.ntmps65
    go_wp2_with (at_builtin; refine Lib.wpList_append_run _ rfl _ _ _ _ rfl _ _ rfl rfl _ _ Hrun.out ?_)
    go_ret
    refine ⟨v', rfl, hrow, ((Frm.refl _ w).alloc _).grown hg (fun k hk e => by have e2 : w.heap.size = k := Option.some.inj e; omega), fun g hg => ?_⟩
    rcases ho g hg with e | e
    · cases e; exact Nat.le_refl _
    · simp at e; omega

set_option maxRecDepth 100000 in
set_option maxHeartbeats 1000000 in
theorem grow_nil (n : Nat) (w : World) (hb : n ≤ 1000000) : Calls Try.prog 76 #[.slice none 0 0, .int .i64 n] w (NewIds [] w) := by
  by_cases h0 : 0 < n
  · have h0i : (0 : Int) < n := by omega
    obtain ⟨i0, hi, hz0, hz1, hz2⟩ := info_parts Try.info29
    have hrun := Lib.run_append_nil_zeros (P := Try.prog) w 67 3 67 29 i0 (.int .u32 0) .i64 .i64 Try.underlying67 Try.underlying3 hi hz0 n h0 (by rw [hz1]; decide) (by omega) (by rw [hz2]; omega)
    have hge := grownCap_ge w n 0 29
    have hmax := grownCap_le_maxLen w n 0 29 (by unfold maxLen; omega)
    have hr : Row (w.drew.alloc (.cells (Builtin.zeroCells #[.int .u32 0] n ++ Builtin.zeroCells #[.int .u32 0] (grownCap w n 0 29 - n)) 29)) 1 (.slice (some ⟨w.heap.size, 0, none⟩) 0 (grownCap w n 0 29)) 0 [] :=
      Row.made w.drew 29 1 0 _ [] _ rfl (Nat.zero_le _) hmax (by simp [Builtin.zeroCells]; omega) (by simp)
    have hf : Frm (fun _ => False) w (w.drew.alloc (.cells (Builtin.zeroCells #[.int .u32 0] n ++ Builtin.zeroCells #[.int .u32 0] (grownCap w n 0 29 - n)) 29)) := (Frm.refl _ w).drew.alloc _
    have hcz : grownCap w n 0 29 ≠ 0 := by omega
    change (Builtin.append_ #[67, 3] 67 #[.slice none 0 0, .int .i64 n]).run Try.prog w = .ok (.slice (some ⟨w.heap.size, 0, none⟩) n (grownCap w n 0 29)) (w.drew.alloc (.cells (Builtin.zeroCells #[.int .u32 0] n ++ Builtin.zeroCells #[.int .u32 0] (grownCap w n 0 29 - n)) 29)) at hrun
    generalize w.drew.alloc (.cells (Builtin.zeroCells #[.int .u32 0] n ++ Builtin.zeroCells #[.int .u32 0] (grownCap w n 0 29 - n)) 29) = w1 at *
    generalize grownCap w n 0 29 = cap at *
    have Hrun := Lib.hid hrun
    clear hrun hz0 hz1 hz2 hi
    go_enter Try.func76, Try.ntmps76
    go_wp2_with (at_builtin; refine Lib.wpList_append_run _ rfl _ _ _ _ rfl _ _ rfl rfl _ _ Hrun.out ?_)
    go_ret
    exact ⟨_, rfl, hr, hf, fun g hg => by cases hg; exact Nat.le_refl _⟩
  · obtain rfl : n = 0 := by omega
    go_enter Try.func76, Try.ntmps76
    go_wp2
    go_ret
    exact ⟨.slice none 0 0, rfl, Own.nil_ _, Frm.refl _ _, fun g hg => by cases hg⟩

/-- The first k lists, one behind the other. -/
def cat (LL : List (List Nat)) (k : Nat) : List Nat := (LL.take k).flatten
theorem cat_zero (LL : List (List Nat)) : cat LL 0 = [] := rfl
theorem cat_succ (LL : List (List Nat)) (k : Nat) (h : k < LL.length) : cat LL (k + 1) = cat LL k ++ LL[k] := by
  unfold cat; rw [List.take_succ_eq_append_getElem h]; simp only [List.flatten_append, List.flatten_cons, List.flatten_nil, List.append_nil]
theorem cat_all (LL : List (List Nat)) : cat LL LL.length = LL.flatten := by unfold cat; rw [List.take_length]
theorem cat_le (LL : List (List Nat)) (k : Nat) : (cat LL k).length ≤ LL.flatten.length := by
  have h : LL.flatten = cat LL k ++ (LL.drop k).flatten := by unfold cat; rw [← List.flatten_append, List.take_append_drop]
  rw [h, List.length_append]; omega

set_option maxRecDepth 100000 in
set_option maxHeartbeats 2000000 in
theorem concat_any (q cap : Nat) (LL : List (List Nat)) (vs : List Value) (w : World) (hv : vs.length = LL.length) (hq : q < w.heap.size) (hcap : LL.length ≤ cap ∧ cap ≤ 1000000) (hc : ∀ k (h : k < LL.length), w.cell? ⟨q, k, none⟩ = some vs[k])
    (hi : ∀ k (h : k < LL.length), Ids w vs[k] LL[k]) (hb : LL.flatten.length ≤ 1000000) :
    Calls Try.prog 63 #[.slice (some ⟨q, 0, none⟩) LL.length cap] w (NewIds LL.flatten w) := by
  obtain ⟨hcap1, hcap2⟩ := hcap
  have Hc := Lib.hid hc
  have Hi := Lib.hid hi
  clear hc hi
  have c0 : (0 : Int) = ((cat LL 0).length : Int) := rfl
  have C0 := Lib.hid c0
  clear c0
  go_enter Try.func63, Try.ntmps63
  go_wp2
  go_loopw [3, 11] (fun n i wr => ∃ k : Nat, k ≤ LL.length ∧ i = .int .i64 k ∧ n = .int .i64 (cat LL k).length ∧ w = wr) (fun _ i _ => LL.length - (intOf i).toNat)
  case atStart => exact ⟨0, Nat.zero_le _, rfl, rfl, rfl⟩
  case round =>
    obtain ⟨k, hk, rfl, rfl, rfl⟩ := hrel
    by_cases hlt : k < LL.length
    · have ck := Hc.out k hlt
      have ik := Hi.out k hlt
      obtain ⟨a, c, hvk, hc1, hc2⟩ := ik.slice
      rw [hvk] at ck
      have Hvk := Lib.hid hvk
      clear hvk
      have hs := cat_succ LL k hlt
      have hle := cat_le LL (k + 1)
      rw [hs, List.length_append] at hle
      have Hs := Lib.hid hs
      clear hs ik
      go_wp2
      go_roundw
      case rel => exact ⟨k + 1, by omega, by go_num, val_int (by rw [Hs.out, List.length_append]; omega), trivial⟩
      case measure => simp [intOf]; omega
    · obtain rfl : k = LL.length := by omega
      have hle := cat_le LL LL.length
      go_wp2_with fail
      refine (grow_nil _ w (by omega)).mono ?_
      rintro e w1 ⟨v1, rfl, o1, f1, n1⟩
      go_wp2
      have hlenq : (cat LL LL.length).length ≤ 1000000 := by omega
      go_loopw [6, 27] (fun v i wr => ∃ k : Nat, k ≤ LL.length ∧ i = .int .i64 k ∧ Own wr v (cat LL k) ∧ Frm (fun _ => False) w wr ∧ ∀ g, v.ownBlock = some g → w.heap.size ≤ g) (fun _ i _ => LL.length - (intOf i).toNat)
      case atStart => exact ⟨0, Nat.zero_le _, rfl, o1, f1, n1⟩
      case round =>
        obtain ⟨k, hk, rfl, o2, f2, n2⟩ := hrel
        by_cases hlt : k < LL.length
        · have ck := Hc.out k hlt
          have ik := Hi.out k hlt
          have ck2 : wr.cell? ⟨q, k, none⟩ = some vs[k] := (World.cell?_of_block (a := ⟨q, k, none⟩) (f2.block q hq (fun h => h))).trans ck
          have ik2 := ik.keepF f2
          have hs := cat_succ LL k hlt
          have hle := cat_le LL (k + 1)
          rw [hs, List.length_append] at hle
          obtain ⟨v', w', hrun, hrow, hg, ho⟩ := append_ids wr _ _ _ _ o2 ik2 (by omega)
          rw [← hs] at hrow
          have Hrun := Lib.hid hrun
          clear hrun ck ik hs
          go_wp2_with (at_builtin; refine Lib.wpList_append_run _ rfl _ _ _ _ rfl _ _ rfl rfl _ _ Hrun.out ?_)
          go_roundw
          case rel =>
            refine ⟨k + 1, by omega, by go_num, hrow, f2.grown hg (fun j hj e => by have := n2 j e; omega), fun g hg2 => ?_⟩
            rcases ho g hg2 with e | e
            · exact n2 g e
            · exact Nat.le_trans f2.size e
          case measure => simp [intOf]; omega
        · obtain rfl : k = LL.length := by omega
          rw [cat_all] at o2
          go_wp2
          go_ret
          exact ⟨_, rfl, o2, f2, n2⟩
end Go.Proofs.Ytjodkgbpbibfbaa
