/- What few and same of the statements on paths answer. No condition. -/
import Derived.Test.YtffhakomnkicoaaDoorWorks
namespace Go.Proofs.YtffhakomnkicoaaDoor
open Go.RowKit

/-- Few names, of few bytes. -/
def fewb (l : List (List UInt8)) : Bool := ((l.take 30).all fun s => decide (s.length ≤ 100)) && decide (l.length ≤ 20)
theorem fewb_len {l : List (List UInt8)} (h : fewb l = true) : l.length ≤ 20 := by
  unfold fewb at h
  rw [Bool.and_eq_true] at h
  simpa using h.2
set_option maxRecDepth 100000 in
set_option maxHeartbeats 1000000 in
theorem few_any (v : Value) (l : List (List UInt8)) (w : World) (h : Strs w v l) :
    Calls Tryd.prog 20 #[v] w fun e w' => e = .returned (.bool (fewb l)) ∧ w = w' := by
  obtain ⟨a, cap, rfl, hc1, hc2⟩ := h.slice
  unfold maxLen at hc2
  obtain ⟨r, hr⟩ : ∃ r, fewb l = r := ⟨_, rfl⟩
  have Hr := Lib.hid hr
  rw [hr]
  clear hr
  go_enter Tryd.func20, Tryd.ntmps20
  go_wp2
  go_loop [3] (fun i => ∃ k : Nat, k ≤ l.length ∧ k ≤ 30 ∧ i = .int .i64 k ∧ ((l.take k).all fun s => decide (s.length ≤ 100)) = true) (fun i => 31 - (intOf i).toNat)
  case atStart => exact ⟨0, Nat.zero_le _, by omega, rfl, rfl⟩
  case round =>
    obtain ⟨k, hk, hk3, rfl, hall⟩ := hrel
    have Hall := Lib.hid hall
    clear hall
    by_cases hlt : k < l.length
    · have hki : (k : Int) < l.length := by omega
      by_cases h30 : k < 30
      · have hk30 : (k : Int) < 30 := by omega
        obtain ⟨g, off, rfl, hb, c0⟩ := h.at k hlt
        have ht := List.take_succ_eq_append_getElem hlt
        have hsz : (bs l[k]).size = l[k].length := rfl
        by_cases hs : l[k].length ≤ 100
        · have hs1 : ((bs l[k]).size : Int) ≤ 100 := by omega
          have hall2 : ((l.take (k + 1)).all fun s => decide (s.length ≤ 100)) = true := by rw [ht, List.all_append, Hall.out]; simpa using hs
          have Hall2 := Lib.hid hall2
          generalize l[k] = x at *
          clear ht hall2 hsz
          go_wp2
          go_round
          case rel => exact ⟨k + 1, by omega, by omega, by go_num, Hall2.out⟩
          case measure => simp [intOf]; omega
        · have hs1 : (100 : Int) < ((bs l[k]).size : Int) := by omega
          have hf : fewb l = false := by
            unfold fewb
            have : ((l.take 30).all fun s => decide (s.length ≤ 100)) = false := by
              rw [List.all_eq_false]
              refine ⟨l[k], ?_, by simpa using hs⟩
              rw [List.mem_take_iff_getElem]
              exact ⟨k, by omega, rfl⟩
            rw [this]; rfl
          have Hf := Lib.hid hf
          generalize l[k] = x at *
          clear ht hf hsz
          go_wp2
          go_ret
          exact ⟨ret_bool (by (rw [← Hr.out, Hf.out]); all_goals (first | rfl | (simp; omega))), rfl⟩
      · have hk30 : (30 : Int) ≤ k := by omega
        have hl20 : (20 : Int) < l.length := by omega
        have hf : fewb l = false := by
          unfold fewb
          rw [Bool.and_eq_false_iff]
          exact .inr (by simp; omega)
        have Hf := Lib.hid hf
        clear hf
        go_wp2
        go_ret
        exact ⟨ret_bool (by (rw [← Hr.out, Hf.out]); all_goals (first | rfl | (simp; omega))), rfl⟩
    · obtain rfl : k = l.length := by omega
      have hf : fewb l = decide ((l.length : Int) ≤ 20) := by
        unfold fewb
        have hall := Hall.out
        rw [List.take_of_length_le (Nat.le_refl _)] at hall
        rw [List.take_of_length_le hk3, hall, Bool.true_and]
        exact decide_eq_decide.2 (by omega)
      have Hf := Lib.hid hf
      clear hf
      go_wp2
      go_ret
      exact ⟨ret_bool (by (rw [← Hr.out, Hf.out]); all_goals (first | rfl | (simp; omega))), rfl⟩
set_option maxRecDepth 100000 in
set_option maxHeartbeats 1000000 in
theorem same_yes (v u : Value) (l : List (List UInt8)) (w : World) (h : Strs w v l) (h2 : Strs w u l) :
    Calls Tryd.prog 31 #[v, u] w fun e w' => e = .returned (.bool true) ∧ Fr w w' := by
  obtain ⟨a, cap, rfl, hc1, hc2⟩ := h.slice
  obtain ⟨b, cap2, rfl, hd1, hd2⟩ := h2.slice
  unfold maxLen at hc2 hd2
  go_enter Tryd.func31, Tryd.ntmps31
  go_wp2
  go_loopw [5] (fun i wr => ∃ k : Nat, k ≤ l.length ∧ i = .int .i64 k ∧ Fr w wr) (fun i _ => l.length - (intOf i).toNat)
  case atStart => exact ⟨0, Nat.zero_le _, rfl, Frm.refl _ _⟩
  case round =>
    obtain ⟨k, hk, rfl, g4⟩ := hrel
    by_cases hlt : k < l.length
    · obtain ⟨b1, o1, rfl, _, c1⟩ := (h.keepF g4).at k hlt
      obtain ⟨b2, o2, rfl, _, c2⟩ := (h2.keepF g4).at k hlt
      have hq : ((bs l[k]).toList == (bs l[k]).toList) = true := beq_self_eq_true _
      have hki : (k : Int) < (l.length : Int) := by omega
      have hk0 : (0 : Int) ≤ (k : Int) := by omega
      go_wp2_with fail
      go_quiet (fail)
      go_wp2_with fail
      go_roundw
      case rel => exact ⟨k + 1, by omega, by go_num, g4.drewN _⟩
      case measure => simp [intOf]; omega
    · obtain rfl : k = l.length := by omega
      go_wp2_with fail
      go_ret
      exact ⟨rfl, g4⟩
end Go.Proofs.YtffhakomnkicoaaDoor
