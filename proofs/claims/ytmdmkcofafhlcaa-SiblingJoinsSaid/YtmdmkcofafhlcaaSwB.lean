/- The statements' own functions on registers: which may be gone through, a copy, what is written over, dots. No condition. -/
import Derived.Test.YtmdmkcofafhlcaaSwA
import Derived.Deep.MidRow
namespace Go.Proofs.Ytmdmkcofafhlcaa
open Go.RowKit

/-- May a register be gone through? -/
def fewS (l : List SibI) : Prop := l.length ≤ 30 ∧ ∀ i (h : i < l.length), l[i].s.length ≤ 200
set_option maxRecDepth 100000 in
set_option maxHeartbeats 1000000 in
theorem sfew_yes (f : Nat → Nat) (v : Value) (l : List SibI) (w : World) (h : SL w v l) (hfew : fewS l) :
    Calls Try.prog 15 #[rg f v] w fun e w' => e = .returned (.bool true) ∧ Frm (fun _ => False) w w' := by
  obtain ⟨a, cap, rfl, h1, h2⟩ := h.slice
  obtain ⟨f1, f2⟩ := hfew
  have F2 := Lib.hid f2
  clear f2
  unfold maxLen at h2
  have g0 : Frm (fun _ => False) w (w.alloc (.cells (rgc f (.slice a l.length cap)) 39)) := (Frm.refl _ w).alloc _
  have b0 := Blk.alloc w 39 (rgc f (.slice a l.length cap))
  have hs := h.keepF g0
  go_enter Try.func15, Try.ntmps15
  go_upto_region 1 with fail
  generalize w.alloc (.cells (rgc f (.slice a l.length cap)) 39) = w1 at *
  generalize w.heap.size = N at *
  have c8 := b0.cell 8 rfl
  go_wp2
  go_loop [3] (fun i => ∃ k : Nat, k ≤ l.length ∧ i = .int .i64 k) (fun i => l.length - (intOf i).toNat)
  case atStart => exact ⟨0, Nat.zero_le _, rfl⟩
  case round =>
    obtain ⟨k, hk, rfl⟩ := hrel
    by_cases hlt : k < l.length
    · obtain ⟨g, off, rfl, x0, x1, x2⟩ := hs.cells k hlt
      have hq := F2.out k hlt
      have hsz : ((bs l[k].s).size : Int) ≤ 200 := by rw [bs_size]; omega
      have h110 : (k : Int) < 40 := by omega
      go_wp2
      go_round
      case rel => exact ⟨k + 1, by omega, by go_num⟩
      case measure => simp [intOf]; omega
    · obtain rfl : k = l.length := by omega
      go_wp2
      go_ret
      exact ⟨ret_bool (by simp; omega), g0⟩

set_option maxRecDepth 100000 in
set_option maxHeartbeats 1000000 in
theorem sfew_no (f : Nat → Nat) (v : Value) (l : List SibI) (w : World) (h : SL w v l) (hfew : ¬ fewS l) :
    Calls Try.prog 15 #[rg f v] w fun e w' => e = .returned (.bool false) ∧ Frm (fun _ => False) w w' := by
  obtain ⟨a, cap, rfl, h1, h2⟩ := h.slice
  have HF := Lib.hid hfew
  clear hfew
  unfold maxLen at h2
  have g0 : Frm (fun _ => False) w (w.alloc (.cells (rgc f (.slice a l.length cap)) 39)) := (Frm.refl _ w).alloc _
  have b0 := Blk.alloc w 39 (rgc f (.slice a l.length cap))
  have hs := h.keepF g0
  go_enter Try.func15, Try.ntmps15
  go_upto_region 1 with fail
  generalize w.alloc (.cells (rgc f (.slice a l.length cap)) 39) = w1 at *
  generalize w.heap.size = N at *
  have c8 := b0.cell 8 rfl
  go_wp2
  go_loop [3] (fun i => ∃ k : Nat, k ≤ l.length ∧ k ≤ 40 ∧ i = .int .i64 k ∧ ∀ j (h : j < l.length), j < k → l[j].s.length ≤ 200) (fun i => l.length - (intOf i).toNat)
  case atStart => exact ⟨0, Nat.zero_le _, by omega, rfl, fun j _ h => absurd h (by omega)⟩
  case round =>
    obtain ⟨k, hk, hk110, rfl, hall⟩ := hrel
    have Hall := Lib.hid hall
    clear hall
    by_cases hlt : k < l.length
    · obtain ⟨g, off, rfl, x0, x1, x2⟩ := hs.cells k hlt
      by_cases h110 : k < 40
      · have h110i : (k : Int) < 40 := by omega
        by_cases hq : l[k].s.length ≤ 200
        · have hsz : ((bs l[k].s).size : Int) ≤ 200 := by rw [bs_size]; omega
          go_wp2
          go_round
          case rel =>
            refine ⟨k + 1, by omega, by omega, by go_num, fun j hj hjk => ?_⟩
            by_cases e : j = k
            · subst e; exact hq
            · exact Hall.out j hj (by omega)
          case measure => simp [intOf]; omega
        · have hsz : (200 : Int) < ((bs l[k].s).size : Int) := by rw [bs_size]; omega
          go_wp2
          go_ret
          exact ⟨rfl, g0⟩
      · have h110i : (40 : Int) ≤ (k : Int) := by omega
        have h100 : (30 : Int) < (l.length : Int) := by omega
        go_wp2
        go_ret
        exact ⟨ret_bool (by simp; omega), g0⟩
    · obtain rfl : k = l.length := by omega
      have h100 : (30 : Int) < (l.length : Int) := by
        rcases Nat.lt_or_ge 30 l.length with h | h
        · omega
        · exact absurd ⟨h, fun i hi => Hall.out i hi hi⟩ HF.out
      go_wp2
      go_ret
      exact ⟨ret_bool (by simp; omega), g0⟩

/-- A call's answer: a register with these siblings, in memory of its own. -/
def NewR (f : Nat → Nat) (l : List SibI) (w : World) (e : Ending) (w' : World) : Prop := ∃ v', e = .returned (rg f v') ∧ OwnL w' v' l ∧ Frm (fun _ => False) w w' ∧ ∀ g, v'.ownBlock = some g → w.heap.size ≤ g
set_option maxRecDepth 100000 in
set_option maxHeartbeats 2000000 in
theorem copied_any (f : Nat → Nat) (v : Value) (l : List SibI) (w : World) (h : SL w v l) (hb : l.length ≤ 1000) :
    Calls Try.prog 17 #[rg f v] w (NewR f l w) := by
  obtain ⟨a, cap, rfl, h1, h2⟩ := h.slice
  have g0 : Frm (fun _ => False) w ((w.alloc (.cells (rgc f (.slice a l.length cap)) 39)).alloc (.cells rz 39)) := ((Frm.refl _ w).alloc _).alloc _
  have b0 : Blk ((w.alloc (.cells (rgc f (.slice a l.length cap)) 39)).alloc (.cells rz 39)) w.heap.size 39 (rgc f (.slice a l.length cap)) := (Blk.alloc w _ _).old _
  have b1 : Blk ((w.alloc (.cells (rgc f (.slice a l.length cap)) 39)).alloc (.cells rz 39)) (w.heap.size + 1) 39 rz := Blk.at1 w _ _ _
  go_enter Try.func17, Try.ntmps17
  go_upto_region 1 with fail
  generalize (w.alloc (.cells (rgc f (.slice a l.length cap)) 39)).alloc (.cells rz 39) = w1 at *
  obtain ⟨N, hN⟩ : ∃ N, w.heap.size = N := ⟨_, rfl⟩
  have HN := Lib.hid hN
  rw [hN] at b0 b1 ⊢
  clear hN
  have lf := load_ctx b0
  have b2 := Blk.alloc w1 39 rz
  have hN1 := b1.lt
  go_upto_region 2 with (first
    | ((with_reducible refine wpl_load rfl _ rfl ?_ lf ?_); (focus rfl))
    | ((with_reducible refine wpl_store_blk rfl 39 _ _ rfl w1.heap.size (rgc f (.slice none 0 0)) rz ?_ ?_ b2 rfl ?_ ?_ ?_); (focus rfl); (focus rfl); (focus (show _ = some 9; kernel_rfl)); (focus (simp [Value.oneCell'])); intro w2 e2 g2 z2))
  obtain ⟨B, hB⟩ : ∃ B, w1.heap.size = B := ⟨_, rfl⟩
  have g2' : Frm (fun _ => False) w1 w2 := ((Frm.refl _ w1).alloc _).next g2 (fun k hk h => by have h : k = w1.heap.size := h; omega)
  have k2 := g0.trans g2'
  have b0 := b0.keep g2' (fun h => h)
  have b1 := b1.keep g2' (fun h => h)
  rw [hB] at e2 hN1 ⊢
  clear lf b2 g2 z2 g2' hB
  obtain ⟨v', w3, hrun, hown, hgr, hnew⟩ := append_sibs w2 (.slice none 0 0) _ [] l (OwnL.nil_ _) (h.keepF k2) (by simp; omega)
  rw [List.nil_append] at hown
  obtain ⟨a3, c3, rfl, _, _⟩ := Row.slice hown
  have f3 : Frm (fun _ => False) w2 w3 := (Frm.refl _ w2).grown hgr (fun k _ e => by cases e)
  have k3 := k2.trans f3
  have e3 := e2.keep f3 (fun h => h)
  have b1 := b1.keep f3 (fun h => h)
  have hne : ∀ g, Value.ownBlock (.slice a3 l.length c3) = some g → N + 2 ≤ g ∧ g ≠ B := fun g e => by
    have := e2.lt
    rcases hnew g e with h | h
    · cases h
    · omega
  have c8 := b0.cell 8 rfl
  have c8' := e2.cell 8 rfl
  have Hrun := Lib.hid hrun
  clear hrun hgr hnew e2
  go_upto_region 3 with (first
    | (at_builtin; refine Lib.wpList_append_run _ rfl _ _ _ _ rfl _ _ rfl rfl _ _ Hrun.out ?_)
    | ((with_reducible refine wpl_store_L rfl _ _ rfl B f (.slice none 0 0) a3 l.length c3 ?_ ?_ e3 ?_); (focus rfl); (focus rfl); intro w4 e4 g4 z4))
  have o4 := hown.keep g4 (fun g e => (hne g e).2)
  have b1 := b1.keep g4 (fun h => by have h : N + 1 = B := h; omega)
  have k4 := k3.next g4 (fun k hk h => by have h : k = B := h; have := HN.out; omega)
  have lR := load_reg e4
  go_wp2_with (first
    | ((with_reducible refine wpl_load rfl _ rfl ?_ lR ?_); (focus rfl))
    | ((with_reducible refine wpl_store_blk rfl 39 _ _ rfl (N + 1) (rgc f (.slice a3 l.length c3)) rz ?_ ?_ b1 rfl ?_ ?_ ?_); (focus rfl); (focus rfl); (focus (show _ = some 9; kernel_rfl)); (focus (simp [Value.oneCell'])); intro w5 e5 g5 z5; have h2 := rcells e5; have c9 := e5.cell 8 rfl))
  refine bodyPost_ret (v := rg f (.slice a3 l.length c3)) (by simp [results, Try.results17, go_sem, h2, c9]) rfl ?_
  exact ⟨_, rfl, o4.keep g5 (fun g e h => by have h : g = N + 1 := h; have := (hne g e).1; omega), k4.next g5 (fun k hk h => by have h : k = N + 1 := h; have := HN.out; omega), fun g e => by have := (hne g e).1; have := HN.out; omega⟩

/-- Cells that may be written over. -/
def SpW (w : World) (v : Value) (n : Nat) : Prop := n = 0 ∨ ∃ g cap, v = .slice (some ⟨g, 0, none⟩) n cap ∧ n ≤ cap ∧ ∀ j, j < n * 3 → (w.cell? ⟨g, j, none⟩).isSome = true ∧ w.frozen? ⟨g, j, none⟩ = false
theorem OwnL.spW {w : World} {v : Value} {l : List SibI} (h : OwnL w v l) : SpW w v l.length := by
  rcases h.2 with ⟨rfl, e⟩ | ⟨g, cap, rfl, h1, h2, h3, h4, h5⟩
  · exact .inl e
  · exact .inr ⟨g, cap, rfl, h1, fun j hj => h5 j (by omega)⟩
theorem SpW.set {w : World} {v : Value} {n : Nat} (h : SpW w v n) (b o : Nat) (vs : List Value) (hin : ∀ j, j < vs.length → (w.cell? ⟨b, o + j, none⟩).isSome = true) : SpW (w.setCells b o vs) v n := by
  rcases h with h | ⟨g, cap, e, h1, h2⟩
  · exact .inl h
  · refine .inr ⟨g, cap, e, h1, fun j hj => ⟨?_, by rw [World.frozen?_setCells]; exact (h2 j hj).2⟩⟩
    by_cases hi : g = b ∧ o ≤ j ∧ j < o + vs.length
    · obtain ⟨rfl, h3, h4⟩ := hi
      have := World.cell?_setCells_in g vs o w hin (j - o) (by omega)
      rw [show o + (j - o) = j from by omega] at this
      rw [this]; rfl
    · rw [World.cell?_setCells_out b vs o w ⟨g, j, none⟩ (fun hb _ => by
        have hb : g = b := hb
        show j < o ∨ o + vs.length ≤ j
        omega)]
      exact (h2 j hj).1
theorem Frm.setCells {X : Nat → Prop} {w : World} (b : Nat) (hX : b < w.heap.size → X b) : ∀ (vs : List Value) (o : Nat) (w' : World), Frm X w w' → Frm X w (w'.setCells b o vs) := by
  intro vs
  induction vs with
  | nil => intro o w' h; exact h
  | cons x xs ih => intro o w' h; exact ih (o + 1) _ (h.setCell (p := ⟨b, o, none⟩) hX x)

set_option maxRecDepth 100000 in
set_option maxHeartbeats 2000000 in
theorem spoilt_any (f : Nat → Nat) (v : Value) (l : List SibI) (w : World) (h : OwnL w v l) :
    Calls Try.prog 25 #[rg f v] w fun e w' => e = .returned (.tuple #[]) ∧ Frm (fun k => v.ownBlock = some k) w w' := by
  have g0 : Frm (fun k => v.ownBlock = some k) w (w.alloc (.cells (rgc f v) 39)) := (Frm.refl _ w).alloc _
  have b0 := Blk.alloc w 39 (rgc f v)
  have hlo := h.blk
  have h := OwnL.keep h ((Frm.refl (fun _ => False) w).alloc (.cells (rgc f v) 39)) (fun _ _ h => h)
  have hWr := h.spW
  obtain ⟨a, cap, rfl, h1, h2⟩ := Row.slice h
  unfold maxLen at h2
  go_enter Try.func25, Try.ntmps25
  go_upto_region 1 with fail
  generalize w.alloc (.cells (rgc f (.slice a l.length cap)) 39) = w1 at *
  obtain ⟨N, hN⟩ : ∃ N, w.heap.size = N := ⟨_, rfl⟩
  have HN := Lib.hid hN
  rw [hN] at b0 hlo ⊢
  clear hN h
  have HLO := Lib.hid hlo
  clear hlo
  go_wp2_with fail
  go_loopw [2] (fun i wr => ∃ k : Nat, k ≤ l.length ∧ i = .int .i64 k ∧ SpW wr (.slice a l.length cap) l.length ∧ Blk wr N 39 (rgc f (.slice a l.length cap)) ∧ Frm (fun k => Value.ownBlock (.slice a l.length cap) = some k) w wr) (fun i _ => l.length - (intOf i).toNat)
  case atStart => exact ⟨0, Nat.zero_le _, rfl, hWr, b0, g0⟩
  case round =>
    obtain ⟨k, hk, rfl, hW, hB, hF⟩ := hrel
    clear hWr b0 g0
    have HW := Lib.hid hW
    have HB := Lib.hid hB
    clear hW
    have c8 := hB.cell 8 rfl
    clear hB
    by_cases hlt : k < l.length
    · rcases HW.out with h0 | ⟨g, cap', e, h3, h4⟩
      · omega
      · simp only [Value.slice.injEq] at e
        obtain ⟨rfl, _, rfl⟩ := e
        have hki : (k : Int) < (l.length : Int) := by omega
        have hk0 : (0 : Int) ≤ (k : Int) := by omega
        have hgN : g < N := HLO.out g rfl
        have hth : wr.there g (k * 3) 3 := fun j hj => h4 (k * 3 + j) (by omega)
        have HT := Lib.hid hth
        clear h4 hth
        go_wp2_with ((with_reducible refine Go.wpList_store_mid rfl 76 _ _ rfl g (k * 3) #[.int .u8 0, .int .u32 0, .string ⟨#[115, 112, 111, 105, 108, 116]⟩] ?_ ?_ ?_ ?_ ?_ ?_); (focus rfl); (focus rfl); (focus (exact HT.out)); (focus (show _ = some 3; kernel_rfl)); (focus (simp [Value.oneCell'])))
        go_roundw
        case rel =>
          refine ⟨k + 1, by omega, by go_num, HW.out.set g (k * 3) _ (fun j hj => (HT.out j hj).1), ?_, Frm.setCells (X := fun k => Value.ownBlock (.slice (some ⟨g, 0, none⟩) l.length cap) = some k) g (fun _ => rfl) _ _ _ hF⟩
          exact HB.out.keep (Frm.setCells (X := fun k => k = g) g (fun _ => rfl) _ _ _ (Frm.refl _ wr)) (fun h => by have h : N = g := h; omega)
        case measure => simp [intOf]; omega
    · obtain rfl : k = l.length := by omega
      go_wp2_with fail
      go_end0
      exact ⟨rfl, hF⟩

end Go.Proofs.Ytmdmkcofafhlcaa

