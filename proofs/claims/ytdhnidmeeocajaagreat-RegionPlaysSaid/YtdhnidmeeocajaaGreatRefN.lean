/- What the document's own Read goes by: headers, log blocks, and the state of its loop. Of no program. No condition. -/
import Derived.Test.YtdhnidmeeocajaaGreatRgPi
import Derived.Test.YtdhnidmeeocajaaGreatRgC
import Derived.IntWalk
section
namespace Go.Proofs.YtdhnidmeeocajaaGreat
open Go.RowKit Go.Shelf

theorem gen_eq {s : List UInt8} (hs : s.length = 64) (hg : beN (s.take 4) < 4294967296) : genOf s = if s = hdB (beN (s.take 4)) then beN (s.take 4) else 0 := by
  obtain ⟨g, hge⟩ : ∃ g, beN (s.take 4) = g := ⟨_, rfl⟩
  rw [hge] at hg ⊢
  by_cases h : s = hdB g
  · rw [if_pos h, h, genOf_hdB hg]
  · rw [if_neg h]
    unfold genOf
    rw [if_neg]
    rintro ⟨_, h2, h3⟩
    apply h
    have e1 : s.take 4 = beB 4 g := by rw [← hge]; exact (beB_beN 4 _ (by rw [List.length_take]; omega)).symm
    have e2 : s.drop 60 = beB 4 g := by
      rw [← hge, ← h3, List.take_of_length_le (by rw [List.length_drop]; omega)]
      exact (beB_beN 4 _ (by rw [List.length_drop]; omega)).symm
    have e3 : s.drop 4 = (s.drop 4).take 56 ++ s.drop 60 := by
      conv => lhs; rw [← List.take_append_drop 56 (s.drop 4), List.drop_drop]
    unfold hdB
    rw [← h2]
    conv => lhs; rw [← List.take_append_drop 4 s, e3, e1, e2]
theorem pieceB_len {s : List UInt8} (hs : s.length = 64) (h : fSize s ≤ 58) : (pieceB s).length = fSize s := by
  unfold pieceB fBytes
  rw [List.length_take, List.length_take, List.length_drop]
  omega
theorem okB_iff {i : Nat} {s : List UInt8} (hs : s.length = 64) (hi : i < 65536) : okB i s ↔ fEnd s ≤ 1 ∧ fSize s ≤ 58 ∧ ¬ (fEnd s = 0 ∧ fSize s < 58) ∧ s = logB i (fEnd s) (pieceB s) := by
  constructor
  · intro h
    exact ⟨h.2.2.1, h.2.2.2.1, by have := h.2.2.2.2.1; omega, okB_eq hs h⟩
  · rintro ⟨h1, h2, h3, h4⟩
    have hl := pieceB_len hs h2
    have := logB_ok (i := i) (flag := fEnd s) (s := pieceB s) (by omega) hi h1 (by omega)
    rw [← h4] at this
    exact this
/-- The state of the loop: may groups still come, what the group that is begun has, the groups. -/
def stR (C : List (List UInt8)) (k : Nat) (going : Bool) (cur : List UInt8) (gs : List (List UInt8)) : Prop :=
  if going = true then scan 1 [] C = gs ++ scan (k + 1) cur (C.drop k) else scan 1 [] C = gs
theorem stR_start (C : List (List UInt8)) : stR C 0 true [] [] := by unfold stR; rw [if_pos rfl]; rfl
theorem stR_no {C : List (List UInt8)} {k : Nat} {going : Bool} {cur s : List UInt8} {gs : List (List UInt8)} (h : stR C k going cur gs) (hs : C[k]? = some s) (hn : ¬ okB (k + 1) s) : stR C (k + 1) false cur gs := by
  unfold stR at h ⊢
  rw [if_neg (by decide)]
  cases going with
  | false => rwa [if_neg (by decide)] at h
  | true =>
    rw [if_pos rfl] at h
    rw [h]
    have e : C.drop k = s :: C.drop (k + 1) := by
      obtain ⟨hk, hv⟩ := List.getElem?_eq_some_iff.1 hs
      rw [← hv]; exact List.drop_eq_getElem_cons hk
    rw [e, scan_cons, if_neg hn, List.append_nil]
theorem stR_off {C : List (List UInt8)} {k : Nat} {cur : List UInt8} {gs : List (List UInt8)} (h : stR C k false cur gs) : stR C (k + 1) false cur gs := h
theorem stR_end {C : List (List UInt8)} {k : Nat} {cur s : List UInt8} {gs : List (List UInt8)} (h : stR C k true cur gs) (hs : C[k]? = some s) (hn : okB (k + 1) s) (he : fEnd s = 1) : stR C (k + 1) true [] (gs ++ [cur ++ pieceB s]) := by
  unfold stR at h ⊢
  rw [if_pos rfl] at h ⊢
  rw [h]
  have e : C.drop k = s :: C.drop (k + 1) := by
    obtain ⟨hk, hv⟩ := List.getElem?_eq_some_iff.1 hs
    rw [← hv]; exact List.drop_eq_getElem_cons hk
  rw [e, scan_cons, if_pos hn, if_pos he, List.append_assoc]
  rfl
theorem stR_more {C : List (List UInt8)} {k : Nat} {cur s : List UInt8} {gs : List (List UInt8)} (h : stR C k true cur gs) (hs : C[k]? = some s) (hn : okB (k + 1) s) (he : fEnd s ≠ 1) : stR C (k + 1) true (cur ++ pieceB s) gs := by
  unfold stR at h ⊢
  rw [if_pos rfl] at h ⊢
  rw [h]
  have e : C.drop k = s :: C.drop (k + 1) := by
    obtain ⟨hk, hv⟩ := List.getElem?_eq_some_iff.1 hs
    rw [← hv]; exact List.drop_eq_getElem_cons hk
  rw [e, scan_cons, if_pos hn, if_neg he]
theorem stR_done {C : List (List UInt8)} {k : Nat} {going : Bool} {cur : List UInt8} {gs : List (List UInt8)} (h : stR C k going cur gs) (hk : C.length ≤ k) : scan 1 [] C = gs := by
  unfold stR at h
  cases going with
  | false => rwa [if_neg (by decide)] at h
  | true =>
    rw [if_pos rfl, List.drop_of_length_le hk] at h
    rw [h]
    exact List.append_nil _
end Go.Proofs.YtdhnidmeeocajaaGreat
end
section
namespace Go.Proofs.YtdhnidmeeocajaaGreat
open Go.RowKit

set_option maxHeartbeats 400000 in
theorem q_number (k b : Nat) (s l : List UInt8) (e : Nat) (w : World) (h : Rq w b s l e) (hk : k ≤ 4) :
    Calls Tryz.prog 78 #[.pointer (some ⟨b, 0, none⟩), .int .i64 k] w fun r w' =>
      r = .returned (.int .u32 (numS k l e).1) ∧ Rq w' b s (numS k l e).2.1 (numS k l e).2.2 ∧ Frm (· = b) w w' := by
  have hlen := nextS_len k l e
  unfold numS
  go_enter Tryz.func78, Tryz.ntmps78
  go_wp2_with fail
  refine (q_fixed b s l e k w h (by omega)).mono ?_
  rintro r w1 ⟨rfl, h1, h2⟩
  obtain ⟨t, ht⟩ : ∃ t, (nextS k l e).1 = t := ⟨_, rfl⟩
  rw [ht] at hlen ⊢
  have hsz : (bs t).size = t.length := rfl
  have Hsz := Lib.hid hsz
  have hsz4 : (bs t).size ≤ 4 := by rw [hsz]; omega
  have Ht := Lib.hid ht
  clear ht hsz
  go_wp2
  go_loop [6, 7] (fun n i => ∃ j : Nat, j ≤ t.length ∧ i = .int .i64 j ∧ n = .int .u32 (beN (t.take j))) (fun _ i => t.length - (intOf i).toNat)
  case atStart => exact ⟨0, Nat.zero_le _, rfl, rfl⟩
  case round =>
    obtain ⟨j, hj, rfl, rfl⟩ := hrel
    by_cases hlt : j < t.length
    · have hlt2 : j < (bs t).size := hlt
      have hb := t[j].toNat_lt
      have hm : beN (t.take j) < 256 ^ 3 := beN_lt 3 _ (by rw [List.length_take]; omega)
      go_wp2
      go_round
      case rel => exact ⟨j + 1, by omega, by go_num, by
        rw [take_snoc t j hlt, beN_snoc]
        refine congrArg (Value.int IntKind.u32) ?_
        show (256 * (beN (t.take j) : Int) + (t[j].toNat : Int) % 4294967296) % 4294967296 = ((256 * beN (t.take j) + t[j].toNat : Nat) : Int)
        omega⟩
      case measure => simp [intOf]; omega
    · have he : j = t.length := by omega
      subst he
      have hge : (bs t).size ≤ t.length := Nat.le_refl _
      go_wp2
      go_ret
      exact ⟨ret_int (by rw [Ht.out]), h1, h2⟩

theorem Rq.c2 {w : World} {b : Nat} {s l : List UInt8} {e : Nat} (h : Rq w b s l e) : w.cell? ⟨b, 2, none⟩ = some (.int .i64 e) := by
  obtain ⟨a, hb, _⟩ := h
  exact hb.cell 2 rfl
theorem Rq.f2 {w : World} {b : Nat} {s l : List UInt8} {e : Nat} (h : Rq w b s l e) : w.frozen? ⟨b, 2, none⟩ = false := by
  obtain ⟨a, hb, _⟩ := h
  exact hb.free 2

end Go.Proofs.YtdhnidmeeocajaaGreat
end
