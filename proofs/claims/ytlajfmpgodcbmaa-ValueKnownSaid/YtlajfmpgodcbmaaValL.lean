/- What the library's Index and Contains do on slices of ids; how ids and texts are appended. No condition. -/
import Derived.Test.YtlajfmpgodcbmaaHashS
import Derived.Test.YtlajfmpgodcbmaaStrs
import Derived.Test.YtlajfmpgodcbmaaCodecA
import Derived.RegionTactic
import Derived.Deep.QuietTactic
import Derived.BigQuiet
import Derived.IntWalk
namespace Go.Proofs.Ytlajfmpgodcbmaa
open Go.RowKit
theorem vret_bool {a b : Bool} (h : a = b) : Ending.returned (.bool a) = .returned (.bool b) := by rw [h]
theorem val_int {k : IntKind} {a b : Int} (h : a = b) : Value.int k a = Value.int k b := by rw [h]
section
variable {α : Type} [DecidableEq α]
def idx (x : α) : List α → Nat
  | [] => 0
  | y :: l => if y = x then 0 else idx x l + 1
theorem idx_lt {x : α} : ∀ {l : List α}, x ∈ l → idx x l < l.length
  | y :: l, h => by
    unfold idx
    by_cases e : y = x
    · rw [if_pos e]; simp
    · rw [if_neg e]
      have h2 : x ∈ l := by
        rcases List.mem_cons.1 h with h | h
        · exact absurd h.symm e
        · exact h
      have := idx_lt h2
      simp only [List.length_cons]; omega
theorem idx_at {x : α} : ∀ {l : List α} (h : x ∈ l), l[idx x l]'(idx_lt h) = x
  | y :: l, h => by
    by_cases e : y = x
    · simp [idx, e]
    · have h2 : x ∈ l := by
        rcases List.mem_cons.1 h with h | h
        · exact absurd h.symm e
        · exact h
      have := idx_at h2
      simp [idx, e, this]
theorem idx_of {x : α} : ∀ {l : List α} {k : Nat} (h : k < l.length), l[k] = x → (∀ j (hj : j < k), l[j] ≠ x) → idx x l = k
  | y :: l, 0, _, h1, _ => by simp [idx]; simpa using h1
  | y :: l, k + 1, h, h1, h2 => by
    have h0 : y ≠ x := h2 0 (by omega)
    simp only [List.length_cons] at h
    rw [idx, if_neg h0, idx_of (k := k) (by omega) (by simpa using h1) (fun j hj => by simpa using h2 (j + 1) (by omega))]
theorem before_idx {x : α} : ∀ {l : List α} {j : Nat}, (h : j < l.length) → j < idx x l → l[j] ≠ x
  | y :: l, 0, _, h1 => by
    unfold idx at h1
    by_cases e : y = x
    · rw [if_pos e] at h1; omega
    · simpa using e
  | y :: l, j + 1, h, h1 => by
    unfold idx at h1
    by_cases e : y = x
    · rw [if_pos e] at h1; omega
    · rw [if_neg e] at h1
      simp only [List.length_cons] at h
      have := before_idx (x := x) (l := l) (j := j) (by omega) (by omega)
      simpa using this
end
set_option maxRecDepth 100000 in
set_option maxHeartbeats 1000000 in
theorem index_yes (v : Value) (l : List Nat) (x : Nat) (w : World) (h : Ids w v l) (hm : x ∈ l) :
    Calls Try.prog 59 #[v, .int .u32 x] w fun e w' => e = .returned (.int .i64 (idx x l : Nat)) ∧ ∃ n, w' = w.drewN n := by
  obtain ⟨a, cap, rfl, hc1, hc2⟩ := h.slice
  have hx := idx_lt hm
  have hat := idx_at hm
  have hbef : ∀ j (hj : j < l.length), j < idx x l → l[j] ≠ x := fun j hj h => before_idx hj h
  have Hat := Lib.hid hat
  have Hbef := Lib.hid hbef
  clear hat hbef
  unfold maxLen at hc2
  go_enter Try.func59, Try.ntmps59
  go_wp2
  go_loopw [8] (fun i wr => ∃ k : Nat, k ≤ idx x l ∧ i = .int .i64 k ∧ ∃ m, wr = w.drewN m) (fun i _ => idx x l + 1 - (intOf i).toNat)
  case atStart => exact ⟨0, Nat.zero_le _, rfl, 0, rfl⟩
  case round =>
    obtain ⟨k, hk, rfl, hd⟩ := hrel
    have hk2 : k < l.length := by omega
    have hi : Ids wr (.slice a l.length cap) l := by obtain ⟨m, rfl⟩ := hd; exact h
    have Hm := Lib.hid hd
    clear hd
    obtain ⟨g, off, rfl, hb, c0⟩ := hi.at k hk2
    by_cases e : k = idx x l
    · have he : l[k] = x := by subst e; exact Hat.out
      rw [he] at c0
      have hq : ((x : Int) == (x : Int)) = true := beq_self_eq_true _
      have He := Lib.hid e
      clear e he
      go_wp2
      go_ret
      exact ⟨ret_int (by rw [He.out]), Hm.out⟩
    · have hne : l[k] ≠ x := Hbef.out k hk2 (by omega)
      have hq : ((x : Int) == (l[k] : Int)) = false := by rw [beq_eq_false_iff_ne]; omega
      go_wp2
      go_roundw
      case rel => exact ⟨k + 1, by omega, by go_num, Hm.out⟩
      case measure => simp [intOf]; omega

set_option maxRecDepth 100000 in
set_option maxHeartbeats 1000000 in
theorem index_no (v : Value) (l : List Nat) (x : Nat) (w : World) (h : Ids w v l) (hm : x ∉ l) :
    Calls Try.prog 59 #[v, .int .u32 x] w fun e w' => e = .returned (.int .i64 (-1)) ∧ ∃ n, w' = w.drewN n := by
  obtain ⟨a, cap, rfl, hc1, hc2⟩ := h.slice
  have hbef : ∀ j (hj : j < l.length), l[j] ≠ x := fun j hj e => hm (e ▸ List.getElem_mem hj)
  have Hbef := Lib.hid hbef
  clear hbef hm
  unfold maxLen at hc2
  go_enter Try.func59, Try.ntmps59
  go_wp2
  go_loopw [8] (fun i wr => ∃ k : Nat, k ≤ l.length ∧ i = .int .i64 k ∧ ∃ m, wr = w.drewN m) (fun i _ => l.length - (intOf i).toNat)
  case atStart => exact ⟨0, Nat.zero_le _, rfl, 0, rfl⟩
  case round =>
    obtain ⟨k, hk, rfl, hd⟩ := hrel
    have hi : Ids wr (.slice a l.length cap) l := by obtain ⟨m, rfl⟩ := hd; exact h
    have Hm := Lib.hid hd
    clear hd
    by_cases hlt : k < l.length
    · obtain ⟨g, off, rfl, hb, c0⟩ := hi.at k hlt
      have hne : l[k] ≠ x := Hbef.out k hlt
      have hq : ((x : Int) == (l[k] : Int)) = false := by rw [beq_eq_false_iff_ne]; omega
      go_wp2
      go_roundw
      case rel => exact ⟨k + 1, by omega, by go_num, Hm.out⟩
      case measure => simp [intOf]; omega
    · obtain rfl : k = l.length := by omega
      go_wp2
      go_ret
      exact ⟨rfl, Hm.out⟩

set_option maxHeartbeats 400000 in
theorem contains_any (v : Value) (l : List Nat) (x : Nat) (w : World) (h : Ids w v l) :
    Calls Try.prog 37 #[v, .int .u32 x] w fun e w' => e = .returned (.bool (decide (x ∈ l))) ∧ ∃ n, w' = w.drewN n := by
  by_cases hm : x ∈ l
  · have hd : decide (x ∈ l) = true := by simpa using hm
    rw [hd]
    clear hd
    obtain ⟨a, cap, rfl, hc1, hc2⟩ := h.slice
    have hi0 : 0 ≤ (idx x l : Int) := by omega
    go_enter Try.func37, Try.ntmps37
    go_wp2_with fail
    refine (index_yes _ l x w h hm).mono ?_
    rintro e w1 ⟨rfl, hn⟩
    have Hn := Lib.hid hn
    clear hn
    go_wp2
    go_ret
    exact ⟨vret_bool (by simp), Hn.out⟩
  · have hd : decide (x ∈ l) = false := by simpa using hm
    rw [hd]
    clear hd
    obtain ⟨a, cap, rfl, hc1, hc2⟩ := h.slice
    go_enter Try.func37, Try.ntmps37
    go_wp2_with fail
    refine (index_no _ l x w h hm).mono ?_
    rintro e w1 ⟨rfl, hn⟩
    have Hn := Lib.hid hn
    clear hn
    go_wp2
    go_ret
    exact ⟨rfl, Hn.out⟩

theorem Try.info35 : (Try.prog.info? 35).map (fun i => (i.zero, i.size, i.bytes)) = some (some (.int .u32 0), 1, 4) := by kernel_rfl

/-- Ids are appended. -/
theorem append_ids (w : World) (v x : Value) (l m : List Nat) (h : Own w v l) (hs : Ids w x m) (hb : l.length + m.length ≤ 1000000) :
    ∃ v' w', (Builtin.append_ #[22, 22] 22 #[v, x]).run Try.prog w = .ok v' w' ∧ Own w' v' (l ++ m) ∧ w.grownBy w' v.ownBlock ∧ (∀ g, v'.ownBlock = some g → v.ownBlock = some g ∨ w.heap.size ≤ g) := by
  obtain ⟨i0, hi, hz0, hz1, hz2⟩ := info_parts Try.info35
  obtain ⟨v', w', h1, h2, h3, h4⟩ := run_append_row w 22 22 22 35 i0 (.int .u32 0) 1 4 Try.underlying22 hi hz0 hz1 hz2 rfl h x m.length (u32s m)
    (Sl.src hs Try.underlying22 (u32s_one m)) (by unfold maxLen; omega) (by omega)
  exact ⟨v', w', h1, by unfold Own; rw [List.length_append, u32s_append]; exact h2, h3, h4⟩
theorem Ids.one (w : World) (x : Nat) : Ids (w.alloc (.cells #[.int .u32 x] 35)) (.slice (some ⟨w.heap.size, 0, none⟩) 1 1) [x] := by
  refine ⟨rfl, _, 1, rfl, Nat.le_refl _, by decide, .inr ⟨_, 0, rfl, by simp, fun j hj => ?_⟩⟩
  obtain rfl : j = 0 := by simp at hj; omega
  exact (Blk.alloc w 35 #[.int .u32 x]).cell 0 rfl
theorem Own.nil_ (w : World) : Own w (.slice none 0 0) [] := Row.nil_ w 1
theorem Own.keep {X : Nat → Prop} {w w' : World} {v : Value} {l : List Nat} (h : Own w v l) (hf : Frm X w w') (hn : ∀ g, v.ownBlock = some g → ¬ X g) : Own w' v l := Row.keep h hf hn
theorem Try.info9s : (Try.prog.info? 9).map (fun i => (i.zero, i.size, i.bytes)) = some (some (.string ⟨#[]⟩), 1, 16) := by kernel_rfl
/-- Texts are appended. -/
theorem append_strs (w : World) (v x : Value) (l m : List (List UInt8)) (h : OwnS w v l) (hs : Strs w x m) (hb : l.length + m.length ≤ 1000000) :
    ∃ v' w', (Builtin.append_ #[28, 28] 28 #[v, x]).run Try.prog w = .ok v' w' ∧ OwnS w' v' (l ++ m) ∧ w.grownBy w' v.ownBlock ∧ (∀ g, v'.ownBlock = some g → v.ownBlock = some g ∨ w.heap.size ≤ g) := by
  obtain ⟨i0, hi, hz0, hz1, hz2⟩ := info_parts Try.info9s
  obtain ⟨v', w', h1, h2, h3, h4⟩ := run_append_row w 28 28 28 9 i0 (.string ⟨#[]⟩) 1 16 Try.underlying28 hi hz0 hz1 hz2 rfl h x m.length (strs m)
    (Sl.src hs Try.underlying28 (strs_one m)) (by unfold maxLen; omega) (by omega)
  exact ⟨v', w', h1, by unfold OwnS; rw [List.length_append, strs_append]; exact h2, h3, h4⟩
theorem Strs.one (w : World) (s : List UInt8) : Strs (w.alloc (.cells #[.string (bs s)] 9)) (.slice (some ⟨w.heap.size, 0, none⟩) 1 1) [s] := by
  refine ⟨rfl, _, 1, rfl, Nat.le_refl _, by decide, .inr ⟨_, 0, rfl, by simp, fun j hj => ?_⟩⟩
  obtain rfl : j = 0 := by simp at hj; omega
  exact (Blk.alloc w 9 #[.string (bs s)]).cell 0 rfl
end Go.Proofs.Ytlajfmpgodcbmaa
