/- What Split answers, the program's and the document's: the chunks, in new memory. Of any text of at most 3000 bytes. -/
import Derived.Test.YtlajfmpgodcbmaaValB
import Derived.Test.YtlajfmpgodcbmaaRefR
import Derived.Deep.Cut
import Derived.Deep.LoopGhost
import Derived.WalkMore
import Derived.Lib.AppendZeros
namespace Go.Proofs.Ytlajfmpgodcbmaa
open Go.RowKit

/-- These texts, in new memory. -/
def NewT (l : List (List UInt8)) (w : World) (e : Ending) (w' : World) : Prop := ∃ v', e = .returned v' ∧ OwnS w' v' l ∧ Frm (fun _ => False) w w' ∧ ∀ g, v'.ownBlock = some g → w.heap.size ≤ g
theorem chunks_from (s : List UInt8) (k : Nat) (h : 64 * k < s.length) : chunks (s.drop (64 * k)) = (s.drop (64 * k)).take 64 :: chunks (s.drop (64 * (k + 1))) := by
  have hne : s.drop (64 * k) ≠ [] := fun e => by have := congrArg List.length e; simp at this; omega
  rw [chunks_some hne, List.drop_drop]; congr 3
theorem chunks_le (s : List UInt8) (h : s.length ≤ 3000) (k : Nat) (c : List (List UInt8)) (hc : chunks s = c ++ chunks (s.drop (64 * k))) : c.length ≤ 60 := by
  have h1 := congrArg List.length hc
  rw [chunks_count, List.length_append] at h1
  unfold count at h1
  omega

set_option maxRecDepth 100000 in
set_option maxHeartbeats 4000000 in
theorem split_any (s : List UInt8) (w : World) (hs : s.length ≤ 3000) : Calls Try.prog 10 #[.string (bs s)] w (NewT (chunks s) w) := by
  go_enter Try.func10, Try.ntmps10
  go_wp2_with fail
  go_step3
  go_wp2_with fail
  go_step3
  go_wp2_with fail
  go_loopw [3, 4] (fun v r wr => ∃ (k : Nat) (t : List UInt8) (c : List (List UInt8)), r = .string (bs t) ∧ t = s.drop (64 * k) ∧ chunks s = c ++ chunks t ∧ OwnS wr v c ∧ Frm (fun _ => False) w wr ∧ ∀ g, v.ownBlock = some g → w.heap.size ≤ g) (fun _ r _ => match r with | .string x => x.size | _ => 0)
  case atStart => exact ⟨0, s, [], rfl, rfl, rfl, OwnS.nil_ _, Frm.refl _ _, fun g hg => by cases hg⟩
  case round =>
    obtain ⟨k, t, c, rfl, ht, hc, ho, fr, hn⟩ := hrel
    have hlen : c.length ≤ 60 := chunks_le s hs k c (by rw [← ht]; exact hc)
    have htl : t.length = s.length - 64 * k := by rw [ht, List.length_drop]
    have Ht := Lib.hid ht
    have Hc := Lib.hid hc
    clear ht hc
    by_cases h0 : t = []
    · subst h0
      have hq : ((bs []).toList == []) = true := by rw [bs_toList]; rfl
      have Hl := Lib.hid htl
      clear htl
      go_wp2_with fail
      rw [Exit.noGoto_ret]
      go_ret
      exact ⟨_, rfl, by rw [Hc.out, chunks_nil, List.append_nil]; exact ho, fr, hn⟩
    · have hq : ((bs t).toList == []) = false := by rw [bs_toList]; simpa using h0
      have H0 := Lib.hid h0
      clear h0
      obtain ⟨a, cap, rfl, hc1, hc2⟩ := Row.slice ho
      by_cases h64 : t.length ≤ 64
      · have hz : (bs t).size ≤ 64 := h64
        have hz' : ((bs t).size : Int) ≤ 64 := by omega
        have ho1 := Row.alloc ho (.cells #[.string (bs t)] 9)
        obtain ⟨v', w', hrun, hown, hg, hv⟩ := append_strs _ _ _ c [t] ho1 (Strs.one wr t) (by simp; omega)
        have fr1 := fr.alloc (.cells #[.string (bs t)] 9)
        have hcc : chunks s = c ++ [t] := by rw [Hc.out, chunks_short H0.out h64]
        have HE := Lib.hid hcc
        have Hl := Lib.hid htl
        have Hrun := Lib.hid hrun
        clear hcc htl hz h64 hrun
        go_wp2_with (at_builtin; refine Lib.wpList_append_run _ rfl _ _ _ _ rfl _ _ rfl rfl _ _ Hrun.out ?_)
        rw [Exit.noGoto_ret]
        go_ret
        exact ⟨_, rfl, by rw [HE.out]; exact hown, fr1.grown hg (fun j hj e => by have := hn j e; omega), fun g hg2 => (hv g hg2).elim (fun e => hn g e) (fun e => by have := fr1.size; omega)⟩
      · have hz : 64 < (bs t).size := by rw [bs_size]; omega
        have hz' : ¬ ((bs t).size : Int) ≤ 64 := by omega
        have hx : (bs t).extract 0 64 = bs (t.take 64) := bs_take t 64
        have hy : (bs t).extract 64 (bs t).size = bs (t.drop 64) := bs_drop t 64
        have ho1 := Row.alloc ho (.cells #[.string (bs (t.take 64))] 9)
        obtain ⟨v', w', hrun, hown, hg, hv⟩ := append_strs _ _ _ c [t.take 64] ho1 (Strs.one wr (t.take 64)) (by simp; omega)
        have fr1 := fr.alloc (.cells #[.string (bs (t.take 64))] 9)
        have hcc : chunks s = (c ++ [t.take 64]) ++ chunks (t.drop 64) := by rw [Hc.out, chunks_some H0.out]; simp
        have HE := Lib.hid hcc
        have Hl := Lib.hid htl
        have HX := Lib.hid hx
        have HY := Lib.hid hy
        have Hrun := Lib.hid hrun
        clear hcc htl h64 hrun
        go_wp2_with (at_builtin; refine Lib.wpList_append_run _ rfl _ _ _ _ rfl _ _ rfl rfl _ _ Hrun.out ?_)
        go_roundw
        case rel =>
          refine ⟨k + 1, t.drop 64, c ++ [t.take 64], ?_, ?_, HE.out, hown, fr1.grown hg (fun j hj e => by have := hn j e; omega), fun g hg2 => (hv g hg2).elim (fun e => hn g e) (fun e => by have := fr1.size; omega)⟩
          · first | rfl | rw [HY.out]
          · rw [Ht.out, List.drop_drop]; congr 1
        case measure =>
          have h9 : 64 < t.length := hz
          simp [bs_size, List.length_drop]
          omega

set_option maxRecDepth 100000 in
set_option maxHeartbeats 4000000 in
theorem rsplit_any (s : List UInt8) (w : World) (hs : s.length ≤ 3000) : Calls Try.prog 11 #[.string (bs s)] w (NewT (chunks s) w) := by
  have hz : (bs s).size ≤ 3000 := hs
  go_enter Try.func11, Try.ntmps11
  go_wp2_with fail
  go_loopw [3, 4, 5] (fun v i e wr => ∃ (k : Nat) (c : List (List UInt8)), i = .int .i64 (64 * k : Nat) ∧ 64 * k ≤ s.length + 64 ∧ chunks s = c ++ chunks (s.drop (64 * k)) ∧ OwnS wr v c ∧ Frm (fun _ => False) w wr ∧ ∀ g, v.ownBlock = some g → w.heap.size ≤ g) (fun _ i _ _ => s.length + 64 - (intOf i).toNat)
  case atStart => exact ⟨0, [], rfl, by omega, rfl, OwnS.nil_ _, Frm.refl _ _, fun g hg => by cases hg⟩
  case round =>
    obtain ⟨k, c, rfl, hk, hc, ho, fr, hn⟩ := hrel
    have hlen : c.length ≤ 60 := chunks_le s hs k c hc
    have Hc := Lib.hid hc
    clear hc
    obtain ⟨a, cap, rfl, hc1, hc2⟩ := Row.slice ho
    obtain ⟨i, hi⟩ : ∃ i, 64 * k = i := ⟨_, rfl⟩
    rw [hi] at hk ⊢
    have Hi := Lib.hid hi
    clear hi
    by_cases hlt : i < s.length
    · have hlt' : (i : Int) < ((bs s).size : Int) := by rw [bs_size]; omega
      have hlt2 : i < (bs s).size := hlt
      obtain ⟨t, ht⟩ : ∃ t, (s.drop i).take 64 = t := ⟨_, rfl⟩
      have ho1 := Row.alloc ho (.cells #[.string (bs t)] 9)
      obtain ⟨v', w', hrun, hown, hg, hv⟩ := append_strs _ _ _ c [t] ho1 (Strs.one wr t) (by simp; omega)
      have fr1 := fr.alloc (.cells #[.string (bs t)] 9)
      have hcc : chunks s = (c ++ [t]) ++ chunks (s.drop (64 * (k + 1))) := by
        rw [Hc.out, chunks_from s k (by rw [Hi.out]; exact hlt), Hi.out, ht]; simp
      have HE := Lib.hid hcc
      have Hrun := Lib.hid hrun
      clear hcc hrun
      by_cases he : s.length < i + 64
      · have he' : ((bs s).size : Int) < (i : Int) + 64 := by rw [bs_size]; omega
        have hx : (bs s).extract i (bs s).size = bs t := by rw [bs_drop, ← ht, List.take_of_length_le (by rw [List.length_drop]; omega)]
        clear he
        have HT := Lib.hid ht
        clear ht
        go_wp2_with (at_builtin; refine Lib.wpList_append_run _ rfl _ _ _ _ rfl _ _ rfl rfl _ _ Hrun.out ?_)
        go_roundw
        case rel =>
          have hi := Hi.out
          exact ⟨k + 1, c ++ [t], by first | rfl | (congr 1; omega), by omega, HE.out, hown, fr1.grown hg (fun j hj e => by have := hn j e; omega), fun g hg2 => (hv g hg2).elim (fun e => hn g e) (fun e => by have := fr1.size; omega)⟩
        case measure => simp [intOf]; omega
      · have he' : ¬ ((bs s).size : Int) < (i : Int) + 64 := by rw [bs_size]; omega
        have hez : i + 64 ≤ (bs s).size := by rw [bs_size]; omega
        have hx : (bs s).extract i (i + 64) = bs t := by rw [bs_part, ← ht, List.drop_take]; congr 2; omega
        clear he
        have HT := Lib.hid ht
        clear ht
        go_wp2_with (at_builtin; refine Lib.wpList_append_run _ rfl _ _ _ _ rfl _ _ rfl rfl _ _ Hrun.out ?_)
        go_roundw
        case rel =>
          have hi := Hi.out
          exact ⟨k + 1, c ++ [t], by first | rfl | (congr 1; omega), by omega, HE.out, hown, fr1.grown hg (fun j hj e => by have := hn j e; omega), fun g hg2 => (hv g hg2).elim (fun e => hn g e) (fun e => by have := fr1.size; omega)⟩
        case measure => simp [intOf]; omega
    · have hlt' : ¬ (i : Int) < ((bs s).size : Int) := by rw [bs_size]; omega
      have he : chunks s = c := by rw [Hc.out, Hi.out, List.drop_eq_nil_of_le (by omega), chunks_nil, List.append_nil]
      have HE := Lib.hid he
      clear he
      go_wp2_with fail
      go_ret
      exact ⟨_, rfl, by rw [HE.out]; exact ho, fr, hn⟩
end Go.Proofs.Ytlajfmpgodcbmaa
