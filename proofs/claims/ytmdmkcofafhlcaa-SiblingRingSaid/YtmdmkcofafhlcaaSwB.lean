/- The statements' own functions on registers: which may be gone through, a copy, what is written over, dots. No condition. -/
import Derived.Test.YtmdmkcofafhlcaaSwA
import Derived.Deep.MidRow
namespace Go.Proofs.Ytmdmkcofafhlcaa
open Go.RowKit

/-- May a register be gone through? -/
def fewS (l : List SibI) : Prop := l.length ≤ 30 ∧ ∀ i (h : i < l.length), l[i].s.length ≤ 200
set_option maxRecDepth 100000 in
set_option maxHeartbeats 1000000 in
theorem sfew_yes (f : Nat → Nat) (v : Value) (l : List SibI) (w : World) (h : SL w v l) (hfew : fewS l) :
    Calls Try.prog 15 #[rg f v] w fun e w' => e = .returned (.bool true) ∧ Frm (fun _ => False) w w' := by
  obtain ⟨a, cap, rfl, h1, h2⟩ := h.slice
  obtain ⟨f1, f2⟩ := hfew
  have F2 := Lib.hid f2
  clear f2
  unfold maxLen at h2
  have g0 : Frm (fun _ => False) w (w.alloc (.cells (rgc f (.slice a l.length cap)) 39)) := (Frm.refl _ w).alloc _
  have b0 := Blk.alloc w 39 (rgc f (.slice a l.length cap))
  have hs := h.keepF g0
  go_enter Try.func15, Try.ntmps15
  go_upto_region 1 with fail
  generalize w.alloc (.cells (rgc f (.slice a l.length cap)) 39) = w1 at *
  generalize w.heap.size = N at *
  have c8 := b0.cell 8 rfl
  go_wp2
  go_loop [3] (fun i => ∃ k : Nat, k ≤ l.length ∧ i = .int .i64 k) (fun i => l.length - (intOf i).toNat)
  case atStart => exact ⟨0, Nat.zero_le _, rfl⟩
  case round =>
    obtain ⟨k, hk, rfl⟩ := hrel
    by_cases hlt : k < l.length
    · obtain ⟨g, off, rfl, x0, x1, x2⟩ := hs.cells k hlt
      have hq := F2.out k hlt
      have hsz : ((bs l[k].s).size : Int) ≤ 200 := by rw [bs_size]; omega
      have h110 : (k : Int) < 40 := by omega
      go_wp2
      go_round
      case rel => exact ⟨k + 1, by omega, by go_num⟩
      case measure => simp [intOf]; omega
    · obtain rfl : k = l.length := by omega
      go_wp2
      go_ret
      exact ⟨ret_bool (by simp; omega), g0⟩

set_option maxRecDepth 100000 in
set_option maxHeartbeats 1000000 in
theorem sfew_no (f : Nat → Nat) (v : Value) (l : List SibI) (w : World) (h : SL w v l) (hfew : ¬ fewS l) :
    Calls Try.prog 15 #[rg f v] w fun e w' => e = .returned (.bool false) ∧ Frm (fun _ => False) w w' := by
  obtain ⟨a, cap, rfl, h1, h2⟩ := h.slice
  have HF := Lib.hid hfew
  clear hfew
  unfold maxLen at h2
  have g0 : Frm (fun _ => False) w (w.alloc (.cells (rgc f (.slice a l.length cap)) 39)) := (Frm.refl _ w).alloc _
  have b0 := Blk.alloc w 39 (rgc f (.slice a l.length cap))
  have hs := h.keepF g0
  go_enter Try.func15, Try.ntmps15
  go_upto_region 1 with fail
  generalize w.alloc (.cells (rgc f (.slice a l.length cap)) 39) = w1 at *
  generalize w.heap.size = N at *
  have c8 := b0.cell 8 rfl
  go_wp2
  go_loop [3] (fun i => ∃ k : Nat, k ≤ l.length ∧ k ≤ 40 ∧ i = .int .i64 k ∧ ∀ j (h : j < l.length), j < k → l[j].s.length ≤ 200) (fun i => l.length - (intOf i).toNat)
  case atStart => exact ⟨0, Nat.zero_le _, by omega, rfl, fun j _ h => absurd h (by omega)⟩
  case round =>
    obtain ⟨k, hk, hk110, rfl, hall⟩ := hrel
    have Hall := Lib.hid hall
    clear hall
    by_cases hlt : k < l.length
    · obtain ⟨g, off, rfl, x0, x1, x2⟩ := hs.cells k hlt
      by_cases h110 : k < 40
      · have h110i : (k : Int) < 40 := by omega
        by_cases hq : l[k].s.length ≤ 200
        · have hsz : ((bs l[k].s).size : Int) ≤ 200 := by rw [bs_size]; omega
          go_wp2
          go_round
          case rel =>
            refine ⟨k + 1, by omega, by omega, by go_num, fun j hj hjk => ?_⟩
            by_cases e : j = k
            · subst e; exact hq
            · exact Hall.out j hj (by omega)
          case measure => simp [intOf]; omega
        · have hsz : (200 : Int) < ((bs l[k].s).size : Int) := by rw [bs_size]; omega
          go_wp2
          go_ret
          exact ⟨rfl, g0⟩
      · have h110i : (40 : Int) ≤ (k : Int) := by omega
        have h100 : (30 : Int) < (l.length : Int) := by omega
        go_wp2
        go_ret
        exact ⟨ret_bool (by simp; omega), g0⟩
    · obtain rfl : k = l.length := by omega
      have h100 : (30 : Int) < (l.length : Int) := by
        rcases Nat.lt_or_ge 30 l.length with h | h
        · omega
        · exact absurd ⟨h, fun i hi => Hall.out i hi hi⟩ HF.out
      go_wp2
      go_ret
      exact ⟨ret_bool (by simp; omega), g0⟩

/-- Cells that may be written over. -/
def SpW (w : World) (v : Value) (n : Nat) : Prop := n = 0 ∨ ∃ g cap, v = .slice (some ⟨g, 0, none⟩) n cap ∧ n ≤ cap ∧ ∀ j, j < n * 3 → (w.cell? ⟨g, j, none⟩).isSome = true ∧ w.frozen? ⟨g, j, none⟩ = false
theorem SpW.set {w : World} {v : Value} {n : Nat} (h : SpW w v n) (b o : Nat) (vs : List Value) (hin : ∀ j, j < vs.length → (w.cell? ⟨b, o + j, none⟩).isSome = true) : SpW (w.setCells b o vs) v n := by
  rcases h with h | ⟨g, cap, e, h1, h2⟩
  · exact .inl h
  · refine .inr ⟨g, cap, e, h1, fun j hj => ⟨?_, by rw [World.frozen?_setCells]; exact (h2 j hj).2⟩⟩
    by_cases hi : g = b ∧ o ≤ j ∧ j < o + vs.length
    · obtain ⟨rfl, h3, h4⟩ := hi
      have := World.cell?_setCells_in g vs o w hin (j - o) (by omega)
      rw [show o + (j - o) = j from by omega] at this
      rw [this]; rfl
    · rw [World.cell?_setCells_out b vs o w ⟨g, j, none⟩ (fun hb _ => by
        have hb : g = b := hb
        show j < o ∨ o + vs.length ≤ j
        omega)]
      exact (h2 j hj).1
theorem Frm.setCells {X : Nat → Prop} {w : World} (b : Nat) (hX : b < w.heap.size → X b) : ∀ (vs : List Value) (o : Nat) (w' : World), Frm X w w' → Frm X w (w'.setCells b o vs) := by
  intro vs
  induction vs with
  | nil => intro o w' h; exact h
  | cons x xs ih => intro o w' h; exact ih (o + 1) _ (h.setCell (p := ⟨b, o, none⟩) hX x)

end Go.Proofs.Ytmdmkcofafhlcaa

