/- The laws' own small calls: few, file, text, none, fails, awake. -/
import Derived.Test.YtlajfmpgodcbmaaValW
import Derived.Test.YtlajfmpgodcbmaaValS
namespace Go.Proofs.Ytlajfmpgodcbmaa
open Go.RowKit

set_option maxRecDepth 100000 in
set_option maxHeartbeats 1000000 in
theorem few_any (d : Bool) (s : Int) (c : Value) (l : List Nat) (w : World) (h : Ids w c l) :
    Calls Try.prog 8 #[.agg (av d s c)] w fun e w' => e = .returned (.bool (decide (l.length ≤ 60))) ∧ Frm (fun _ => False) w w' := by
  obtain ⟨a, cap, rfl, hc1, hc2⟩ := h.slice
  have e : decide (l.length ≤ 60) = decide ((l.length : Int) ≤ 60) := by rw [decide_eq_decide]; omega
  rw [e]
  clear e
  obtain ⟨q, hq⟩ : ∃ q, decide ((l.length : Int) ≤ 60) = q := ⟨_, rfl⟩
  have hq' : decide (l.length ≤ 60) = q := by rw [← hq, decide_eq_decide]; omega
  rw [hq]
  cases q with
  | true =>
    go_enter Try.func8, Try.ntmps8
    go_wp2_with fail
    go_ret
    exact ⟨rfl, (Frm.refl _ w).alloc _⟩
  | false =>
    go_enter Try.func8, Try.ntmps8
    go_wp2_with fail
    go_ret
    exact ⟨rfl, (Frm.refl _ w).alloc _⟩

set_option maxRecDepth 100000 in
set_option maxHeartbeats 1000000 in
theorem file_any (s : Int) (a : Option Addr) (n cap : Nat) (w : World) :
    Calls Try.prog 32 #[.int .i64 s, .slice a n cap] w fun e w' => e = .returned (.agg (av false s (.slice a n cap))) ∧ Frm (fun _ => False) w w' := by
  have b9 := Blk.alloc w 24 (av false s (.slice a n cap))
  have q0 := b9.cell 0 rfl
  have q1 := b9.cell 1 rfl
  have q2 := b9.cell 2 rfl
  go_enter Try.func32, Try.ntmps32
  go_wp2_with fail
  refine bodyPost_ret (v := .agg (av false s (.slice a n cap))) (by simp [results, Try.results32, go_sem, q0, q1, q2]) rfl ?_
  exact ⟨rfl, (Frm.refl _ w).alloc _⟩

set_option maxRecDepth 100000 in
set_option maxHeartbeats 1000000 in
theorem text_true (d : Bool) (s : Int) (c : Value) (l : List Nat) (t : List UInt8) (w : World) (hs : I64 s) (h : Ids w c l) (hfit : ∀ x ∈ l, x < 4294967296) (ht : putV d s l = (t, 0)) (hok : okV d s l = true) :
    Calls Try.prog 35 #[.agg (av d s c), .string (bs t)] w fun e w' => e = .returned (.bool true) ∧ Frm (fun _ => False) w w' := by
  have g0 : Frm (fun _ => False) w (w.alloc (.cells (av d s c) 24)) := (Frm.refl _ w).alloc _
  have b0 := Blk.alloc w 24 (av d s c)
  have P := put_any7 d s c l _ hs (h.keepF g0) hfit
  have K := fun W (f : Frm (fun _ => False) w W) => check_any d s c l W hs (h.keepF f)
  rw [ht] at P
  rw [hok] at K
  have HP := Lib.hid P
  have HK := Lib.hid K
  clear P K ht hok
  have hq : ((bs t).toList == (bs t).toList) = true := beq_self_eq_true _
  go_enter Try.func35, Try.ntmps35
  go_wp2_with fail
  refine HP.out.mono ?_
  rintro e w1 ⟨rfl, g1⟩
  have b1 := b0.keep g1 (fun h => h)
  have p0 := b1.cell 0 rfl
  have p1 := b1.cell 1 rfl
  have p2 := b1.cell 2 rfl
  go_wp2_with fail
  refine (HK.out _ (g0.trans g1)).mono ?_
  rintro e w2 ⟨rfl, g2⟩
  go_wp2_with fail
  go_ret
  exact ⟨rfl, (g0.trans g1).trans g2⟩

set_option maxRecDepth 100000 in
set_option maxHeartbeats 1000000 in
theorem none_any (d : Bool) (s : Int) (c : Value) (l : List Nat) (w : World) (hs : I64 s) (h : Ids w c l) (hfit : ∀ x ∈ l, x < 4294967296) :
    Calls Try.prog 31 #[.agg (av d s c)] w fun e w' => e = .returned (.bool (!okV d s l)) ∧ Frm (fun _ => False) w w' := by
  have g0 : Frm (fun _ => False) w (w.alloc (.cells (av d s c) 24)) := (Frm.refl _ w).alloc _
  have b0 := Blk.alloc w 24 (av d s c)
  have P := put_any7 d s c l _ hs (h.keepF g0) hfit
  have K := fun W (f : Frm (fun _ => False) w W) => check_any d s c l W hs (h.keepF f)
  cases hok : okV d s l with
  | true =>
    have hp : putV d s l = (headB d s.toNat ++ idsB l, 0) := by unfold putV; rw [hok]; rfl
    obtain ⟨x, r, hx⟩ : ∃ x r, headB d s.toNat ++ idsB l = x :: r := by
      cases d
      · exact ⟨0, _, rfl⟩
      · exact ⟨1, _, rfl⟩
    rw [hp, hx] at P
    have HP := Lib.hid P
    clear P K hp hx hok
    have hq : ((bs (x :: r)).toList == []) = false := by rw [bs_toList]; rfl
    go_enter Try.func31, Try.ntmps31
    go_wp2_with fail
    refine HP.out.mono ?_
    rintro e w1 ⟨rfl, g1⟩
    go_wp2_with fail
    go_ret
    exact ⟨rfl, g0.trans g1⟩
  | false =>
    have hp : putV d s l = ([], 4) := by unfold putV; rw [hok]; rfl
    rw [hp] at P
    rw [hok] at K
    have HP := Lib.hid P
    have HK := Lib.hid K
    clear P K hp hok
    have hq : ((bs []).toList == []) = true := by rw [bs_toList]; rfl
    go_enter Try.func31, Try.ntmps31
    go_wp2_with fail
    refine HP.out.mono ?_
    rintro e w1 ⟨rfl, g1⟩
    have b1 := b0.keep g1 (fun h => h)
    have p0 := b1.cell 0 rfl
    have p1 := b1.cell 1 rfl
    have p2 := b1.cell 2 rfl
    go_wp2_with fail
    refine (HK.out _ (g0.trans g1)).mono ?_
    rintro e w2 ⟨rfl, g2⟩
    go_wp2_with fail
    go_ret
    exact ⟨rfl, (g0.trans g1).trans g2⟩

set_option maxRecDepth 100000 in
set_option maxHeartbeats 1000000 in
theorem fails_true (t : List UInt8) (x : Nat) (w : World) (ht : t.length ≤ 140737488355328) (h : (takeV t 0).1 = (false, 0, [], x)) :
    Calls Try.prog 33 #[.string (bs t), .int .i64 x] w fun e w' => e = .returned (.bool true) ∧ Frm (fun _ => False) w w' := by
  have hxx : ((x : Int) == (x : Int)) = true := beq_self_eq_true _
  go_enter Try.func33, Try.ntmps33
  go_wp2_with fail
  refine (read_any t _ ht).mono ?_
  rintro e w1 ⟨rfl, r1, g1⟩
  have T := take_any7 _ _ _ _ r1
  rw [h] at T
  go_wp2_with fail
  refine T.mono ?_
  rintro e w2 ⟨v, rfl, o2, n2, _, g2⟩
  clear T r1
  obtain ⟨a, cap, hv, _, _⟩ := Row.slice o2
  rw [List.length_nil] at hv
  subst hv
  have k2 := g1.new g2 (fun j hj => by rw [hj]; exact Nat.le_refl _)
  have k3 := k2.alloc (.cells (av false 0 (.slice a 0 cap)) 24)
  have b3 := Blk.alloc w2 24 (av false 0 (.slice a 0 cap))
  have o3 := o2.ids.keepF ((Frm.refl _ w2).alloc (.cells (av false 0 (.slice a 0 cap)) 24))
  have S := same_any false 0 _ [] false 0 (.slice none 0 0) [] _ o3 (Own.nil_ _).ids
  have hs : sameV false 0 [] false 0 [] = true := rfl
  rw [hs] at S
  have HS := Lib.hid S
  have p0 := b3.cell 0 rfl
  have p1 := b3.cell 1 rfl
  have p2 := b3.cell 2 rfl
  clear S hs o3 o2
  go_wp2_with fail
  refine HS.out.mono ?_
  rintro e w4 ⟨rfl, g4⟩
  go_wp2_with fail
  go_ret
  exact ⟨rfl, k3.trans g4⟩

theorem ids_two (w : World) (x y : Nat) : Ids (w.alloc (.cells #[.int .u32 x, .int .u32 y] 35)) (.slice (some ⟨w.heap.size, 0, none⟩) 2 2) [x, y] := by
  have hb := Blk.alloc w 35 #[.int .u32 x, .int .u32 y]
  refine ⟨rfl, _, 2, rfl, Nat.le_refl _, by decide, .inr ⟨_, 0, rfl, hb.lt, fun j hj => ?_⟩⟩
  rcases (show j = 0 ∨ j = 1 by simp at hj; omega) with rfl | rfl
  · exact hb.cell 0 rfl
  · exact hb.cell 1 rfl
theorem nilIds (w : World) : Ids w (.slice none 0 0) [] := (Own.nil_ w).ids

set_option maxRecDepth 100000 in
set_option maxHeartbeats 2000000 in
theorem wawake_any (w : World) : Calls Try.prog 9 #[] w fun e w' => e = .returned (.bool true) ∧ Frm (fun _ => False) w w' := by
  go_enter Try.func9, Try.ntmps9
  go_wp2_with fail
  refine (count_any 65 _ (by unfold I64; omega)).mono ?_
  rintro e w1 ⟨rfl, rfl⟩
  have h65 : count 65 = 2 := by decide
  rw [h65]
  clear h65
  go_wp2_with fail
  refine (text_true true 0 (.slice none 0 0) [] [1] w1 (by unfold I64; omega) (nilIds _) (by simp) (by decide) (by decide)).mono ?_
  rintro e w2 ⟨rfl, g2⟩
  have i3 := ids_two w2 7 258
  have g3 : Frm (fun _ => False) w2 (w2.alloc (.cells #[.int .u32 7, .int .u32 258] 35)) := (Frm.refl _ w2).alloc _
  go_wp2_with fail
  refine (file_any 65 _ 2 2 _).mono ?_
  rintro e w4 ⟨rfl, g4⟩
  go_wp2_with fail
  refine (text_true false 65 _ [7, 258] [0, 0, 65, 0, 0, 0, 7, 0, 0, 1, 2] w4 (by unfold I64; omega) (i3.keepF g4) (by decide) (by decide) (by decide)).mono ?_
  rintro e w5 ⟨rfl, g5⟩
  go_wp2_with fail
  refine (fails_true [] 10 w5 (by decide) (by decide)).mono ?_
  rintro e w6 ⟨rfl, g6⟩
  go_wp2_with fail
  refine (split_any [97, 98] w6 (by decide)).mono ?_
  rintro e w7 ⟨v, rfl, o7, g7, _⟩
  obtain ⟨a, cap, hv, _, _⟩ := Row.slice o7
  have hl : (chunks [97, 98]).length = 1 := by rw [chunks_count]; decide
  rw [hl] at hv
  subst hv
  clear o7 hl i3
  go_wp2_with fail
  go_ret
  exact ⟨rfl, ((((g2.trans g3).trans g4).trans g5).trans g6).trans g7⟩
end Go.Proofs.Ytlajfmpgodcbmaa
