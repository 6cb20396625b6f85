/- PathKnown: the chapter's examples, and others at the ends. Conditions: the tables and errors of strconv lie as the program's text lays them (Vars). -/
import Derived.Test.YtffhakomnkicoaaDoorFew
import Derived.Test.YtffhakomnkicoaaDoorShelf
namespace Go.Proofs.YtffhakomnkicoaaDoor
open Go.RowKit

theorem split_third {s a u : List UInt8} {d x : UInt8} (hc : cut 126 s = [a, d :: x :: u]) (hx : x ≠ 46) : splitO s = none := by
  cases e : splitO s with
  | none => rfl
  | some t =>
    obtain ⟨b, r, n⟩ := t
    obtain ⟨h1, h2⟩ := splitO_ok e
    have h3 := cut_conf h1
    rw [h2, hc] at h3
    simp only [List.cons.injEq, and_true] at h3
    exact absurd h3.2.2.1 hx
theorem split_digs {s a u : List UInt8} {d x : UInt8} (hc : cut 126 s = [a, d :: x :: u]) (hx : digs (val u) ≠ u) : splitO s = none := by
  cases e : splitO s with
  | none => rfl
  | some t =>
    obtain ⟨b, r, n⟩ := t
    obtain ⟨h1, h2⟩ := splitO_ok e
    have h3 := cut_conf h1
    rw [h2, hc] at h3
    simp only [List.cons.injEq, and_true] at h3
    obtain ⟨_, _, _, h4⟩ := h3
    exact absurd (by rw [h4, val_digs]) hx
theorem digs1 : digs 1 = [49] := by rw [digs_small (by decide)]; rfl
theorem Strs.lit (w : World) (l : List (List UInt8)) (h : l.length ≤ 1000) : Strs (w.alloc (.cells (strs l).toArray 9)) (.slice (some ⟨w.heap.size, 0, none⟩) l.length l.length) l := by
  refine ⟨by simp [strs], _, l.length, rfl, Nat.le_refl _, by unfold maxLen; omega, .inr ⟨_, 0, rfl, by simp, fun j hj => ?_⟩⟩
  rw [Nat.zero_add]
  have hj2 : j < (strs l).length := by rw [strs_length]; omega
  rw [(Blk.alloc w 9 (strs l).toArray).cell j (v := (strs l)[j]) (by simp [hj2])]
  simp [hj2]
def bads : List (List UInt8) := [[97], [47, 47], [47, 97, 47], [47, 97, 32, 98], [47, 97, 126, 48, 46, 49], [47, 127], [47, 128], [47, 97, 0], [47, 32]]
def nones : List (List UInt8) := [[97], [97, 126, 51, 46, 48, 55], [97, 126, 56, 46, 49], [97, 126, 48, 46, 54, 53, 53, 51, 54], [126, 48, 46, 49], [97, 126], [97, 126, 48], [97, 126, 48, 46], [97, 126, 48, 46, 48], [97, 126, 48, 48, 46, 49], [97, 126, 48, 46, 49, 126, 48, 46, 49], [49, 50, 51, 52, 53, 54, 55, 56, 57, 126, 48, 46, 49], [97, 126, 48, 46, 43, 49], [97, 126, 45, 49, 46, 49], [97, 47, 98, 126, 48, 46, 49], []]
theorem bads_all : ∀ s ∈ bads, parse s = ([], 4) ∧ s.length ≤ 1000 := by decide
theorem nones_all : ∀ s ∈ nones, splitO s = none ∧ s.length ≤ 1000 := by
  intro s hs
  simp only [nones, List.mem_cons, List.not_mem_nil, or_false] at hs
  rcases hs with rfl | rfl | rfl | rfl | rfl | rfl | rfl | rfl | rfl | rfl | rfl | rfl | rfl | rfl | rfl | rfl
  · exact ⟨by rfl, by decide⟩
  · exact ⟨split_digs (a := [97]) (d := 51) (x := 46) (u := [48, 55]) (by decide) (by show digs 7 ≠ _; rw [digs7]; decide), by decide⟩
  · exact ⟨by rfl, by decide⟩
  · exact ⟨by rfl, by decide⟩
  · exact ⟨by rfl, by decide⟩
  · exact ⟨by rfl, by decide⟩
  · exact ⟨by rfl, by decide⟩
  · exact ⟨by rfl, by decide⟩
  · exact ⟨by rfl, by decide⟩
  · exact ⟨split_third (a := [97]) (d := 48) (x := 48) (u := [46, 49]) (by decide) (by decide), by decide⟩
  · exact ⟨by rfl, by decide⟩
  · exact ⟨by rfl, by decide⟩
  · exact ⟨split_digs (a := [97]) (d := 48) (x := 46) (u := [43, 49]) (by decide) (by show digs 1 ≠ _; rw [digs1]; decide), by decide⟩
  · exact ⟨split_third (a := [97]) (d := 45) (x := 49) (u := [46, 49]) (by decide) (by decide), by decide⟩
  · exact ⟨by rfl, by decide⟩
  · exact ⟨by rfl, by decide⟩
theorem digs_top : digs 65535 = [54, 53, 53, 51, 53] := by
  have h0 : digs 6 = [54] := digs_small (by decide)
  have h1 : digs 65 = digs 6 ++ [53] := digs_great (n := 65) (by decide)
  have h2 : digs 655 = digs 65 ++ [53] := digs_great (n := 655) (by decide)
  have h3 : digs 6553 = digs 655 ++ [51] := digs_great (n := 6553) (by decide)
  have h4 : digs 65535 = digs 6553 ++ [53] := digs_great (n := 65535) (by decide)
  rw [h4, h3, h2, h1, h0]; rfl
theorem conf_top : conf [49, 50, 51, 52, 53, 54, 55, 56] 7 65535 = [49, 50, 51, 52, 53, 54, 55, 56, 126, 55, 46, 54, 53, 53, 51, 53] := by unfold conf; rw [digs_top]; rfl
theorem okd_top : okd [49, 50, 51, 52, 53, 54, 55, 56] 7 65535 := ⟨by decide, by decide, by decide, by decide⟩
theorem seen_top : seen [47, 49, 50, 51, 52, 53, 54, 55, 56, 47, 49, 50, 51, 52, 53, 54, 55, 56, 47, 49, 50, 51, 52, 53, 54, 55, 56, 47, 49, 50, 51, 52, 53, 54, 55, 56, 126, 55, 46, 54, 53, 53, 51, 53] = ([[49, 50, 51, 52, 53, 54, 55, 56], [49, 50, 51, 52, 53, 54, 55, 56], [49, 50, 51, 52, 53, 54, 55, 56], [49, 50, 51, 52, 53, 54, 55, 56]], some (7, 65535), 0) := by
  have h := seen_conf (l := [[49, 50, 51, 52, 53, 54, 55, 56], [49, 50, 51, 52, 53, 54, 55, 56], [49, 50, 51, 52, 53, 54, 55, 56]]) okd_top (by decide) (by decide)
  rw [conf_top] at h
  exact h
theorem seen_root : seen [47] = ([], none, 0) := rfl
theorem seen_d : seen [47, 100] = ([[100]], none, 0) := seen_txt (l := [[100]]) ⟨by decide, by decide⟩
theorem un0 : seen [47, 100, 126, 48, 46, 49, 47, 97] = ([], none, 4) := by rfl
theorem un1 : seen [47, 97, 126] = ([], none, 4) := by rfl
theorem un2 : seen [47, 97, 126, 48, 46, 49, 47] = ([], none, 4) := by rfl
theorem un3 : seen [47, 126, 48, 46, 49] = ([], none, 4) := by rfl
theorem un4 : seen [47, 49, 50, 51, 52, 53, 54, 55, 56, 57, 126, 120] = ([], none, 3) := by rfl
theorem un5 : seen [47, 97, 47, 97, 47, 97, 47, 97, 47, 97, 126, 120] = ([], none, 3) := by rfl
theorem un6 : seen [47, 49, 50, 51, 52, 53, 54, 55, 56, 47, 49, 50, 51, 52, 53, 54, 55, 56, 47, 49, 50, 51, 52, 53, 54, 55, 56, 47, 49, 50, 51, 52, 53, 54, 55, 56, 126, 55, 46, 54, 53, 53, 51, 53, 48] = ([], none, 3) := by rfl

set_option maxRecDepth 100000 in
set_option maxHeartbeats 2000000 in
theorem pathKnown_any (w : World) (hv : Vars w) : Calls Tryd.prog 9 #[] w fun e w' => e = .returned (.bool true) ∧ Fr w w' := by
  have H0 := Lib.hid (fun w (hv : Vars w) => works_any w hv)
  have H1 := Lib.hid (fun w (_ : Vars w) => means_yes [47, 97, 46, 98] [97, 46, 98] [[97, 46, 98]] w (by decide) (by decide) (by decide) rfl (by decide))
  have H2 := Lib.hid (fun w (_ : Vars w) => means_yes [47, 49, 50, 51, 52, 53, 54, 55, 56, 47, 33, 47, 125, 47, 34] [49, 50, 51, 52, 53, 54, 55, 56, 124, 33, 124, 125, 124, 34] [[49, 50, 51, 52, 53, 54, 55, 56], [33], [125], [34]] w (by decide) (by decide) (by decide) rfl (by decide))
  have H3 := Lib.hid (fun w (_ : Vars w) => fails_yes [47, 49, 50, 51, 52, 53, 54, 55, 56, 57] 3 w (by decide) (by decide))
  have H4 := Lib.hid (fun w (_ : Vars w) => fails_yes [47, 97, 47, 97, 47, 97, 47, 97, 47, 97] 3 w (by decide) (by decide))
  have R5 := Lib.hid (fun w => Tryd.strings_Repeat (⟨#[47]⟩ : ByteArray) 37 w (by decide) (by decide))
  have H5 := Lib.hid (fun w (_ : Vars w) => fails_yes (Lib.repeatL (⟨#[47]⟩ : ByteArray).data.toList 37) 3 w (by decide) (by decide))
  have R6 := Lib.hid (fun w => Tryd.strings_Repeat (⟨#[47]⟩ : ByteArray) 36 w (by decide) (by decide))
  have H6 := Lib.hid (fun w (_ : Vars w) => fails_yes (Lib.repeatL (⟨#[47]⟩ : ByteArray).data.toList 36) 4 w (by decide) (by decide))
  have H7 := Lib.hid (fun w (_ : Vars w) => fails_yes [47, 97, 47, 97, 47, 97, 47, 97, 47, 32] 4 w (by decide) (by decide))
  have HB := Lib.hid (fun w (k : Nat) (hk : k < bads.length) => fails_yes bads[k] 4 w (bads_all _ (List.getElem_mem hk)).2 (bads_all _ (List.getElem_mem hk)).1)
  have HN := Lib.hid (fun w (hv : Vars w) (k : Nat) (hk : k < nones.length) => plain_yes nones[k] w hv (nones_all _ (List.getElem_mem hk)).2 (nones_all _ (List.getElem_mem hk)).1)
  have K1 := Lib.hid (fun w => by have := conflict_no [97] 8 1 w (fun h => absurd h.2.1 (by omega)); unfold ConfTo at this; dsimp only at this; exact this)
  have K2 := Lib.hid (fun w => by have := conflict_no [97] 0 0 w (fun h => absurd h.2.2.1 (by omega)); unfold ConfTo at this; dsimp only at this; exact this)
  have K3 := Lib.hid (fun w => by have := conflict_no [97, 126, 48, 46, 49] 0 1 w (fun h => absurd h.1 (by decide)); unfold ConfTo at this; dsimp only at this; exact this)
  have K4 := Lib.hid (fun w => by have := conflict_no [97] 0 65536 w (fun h => absurd h.2.2.2 (by omega)); unfold ConfTo at this; dsimp only at this; exact this)
  have CY := Lib.hid (fun w (hv : Vars w) => conf_yes [49, 50, 51, 52, 53, 54, 55, 56] [49, 50, 51, 52, 53, 54, 55, 56, 126, 55, 46, 54, 53, 53, 51, 53] 7 65535 w hv (by decide) okd_top conf_top)
  have N1 := Lib.hid (fun w => by have := name_any [97, 126, 48, 46, 49] w; rw [show decide (chk [97, 126, 48, 46, 49] = 0) = false from by decide] at this; exact this)
  have N2 := Lib.hid (fun w => by have := name_any [97] w; rw [show decide (chk [97] = 0) = true from by decide] at this; exact this)
  have S1 := Lib.hid (fun w (hv : Vars w) => seen_none [47] [] [] w hv seen_root (by decide) rfl (by decide))
  have S2 := Lib.hid (fun w (hv : Vars w) => seen_none [47, 100] [100] [[100]] w hv seen_d (by decide) rfl (by decide))
  have S3 := Lib.hid (fun w (hv : Vars w) => seen_some [47, 49, 50, 51, 52, 53, 54, 55, 56, 47, 49, 50, 51, 52, 53, 54, 55, 56, 47, 49, 50, 51, 52, 53, 54, 55, 56, 47, 49, 50, 51, 52, 53, 54, 55, 56, 126, 55, 46, 54, 53, 53, 51, 53] [49, 50, 51, 52, 53, 54, 55, 56, 124, 49, 50, 51, 52, 53, 54, 55, 56, 124, 49, 50, 51, 52, 53, 54, 55, 56, 124, 49, 50, 51, 52, 53, 54, 55, 56] [[49, 50, 51, 52, 53, 54, 55, 56], [49, 50, 51, 52, 53, 54, 55, 56], [49, 50, 51, 52, 53, 54, 55, 56], [49, 50, 51, 52, 53, 54, 55, 56]] 7 65535 w hv seen_top (by decide) (by decide) rfl (by decide))
  have U0 := Lib.hid (fun w (hv : Vars w) => unseen_yes [47, 100, 126, 48, 46, 49, 47, 97] 4 w hv un0)
  have U1 := Lib.hid (fun w (hv : Vars w) => unseen_yes [47, 97, 126] 4 w hv un1)
  have U2 := Lib.hid (fun w (hv : Vars w) => unseen_yes [47, 97, 126, 48, 46, 49, 47] 4 w hv un2)
  have U3 := Lib.hid (fun w (hv : Vars w) => unseen_yes [47, 126, 48, 46, 49] 4 w hv un3)
  have U4 := Lib.hid (fun w (hv : Vars w) => unseen_yes [47, 49, 50, 51, 52, 53, 54, 55, 56, 57, 126, 120] 3 w hv un4)
  have U5 := Lib.hid (fun w (hv : Vars w) => unseen_yes [47, 97, 47, 97, 47, 97, 47, 97, 47, 97, 126, 120] 3 w hv un5)
  have U6 := Lib.hid (fun w (hv : Vars w) => unseen_yes [47, 49, 50, 51, 52, 53, 54, 55, 56, 47, 49, 50, 51, 52, 53, 54, 55, 56, 47, 49, 50, 51, 52, 53, 54, 55, 56, 47, 49, 50, 51, 52, 53, 54, 55, 56, 126, 55, 46, 54, 53, 53, 51, 53, 48] 3 w hv un6)
  have UA := Lib.hid (fun w => by have := up_any (.slice (some ⟨w.heap.size, 0, none⟩) 2 2) [[97], [98]] _ (Strs.lit w [[97], [98]] (by decide)) (by decide); exact this)
  have UB := Lib.hid (fun w => up_any (.slice none 0 0) [] w (Strs.none_ w) (by decide))
  have q1 : (bs [98]).toList = [98] := bs_toList _
  have q2 : (bs []).toList = [] := bs_toList _
  go_enter Tryd.func9, Tryd.ntmps9
  have g0 : Fr w w := Frm.refl _ _
  go_wp2_with fail
  refine (H0.out _ (hv.keep g0)).mono ?_
  rintro e w0 ⟨rfl, f0⟩
  have g1 := g0.trans f0
  clear f0 g0
  go_wp2_with fail
  refine (H1.out _ (hv.keep g1)).mono ?_
  rintro e w1 ⟨rfl, f1⟩
  have g2 := g1.trans f1
  clear f1 g1
  go_wp2_with fail
  refine (H2.out _ (hv.keep g2)).mono ?_
  rintro e w2 ⟨rfl, f2⟩
  have g3 := g2.trans f2
  clear f2 g2
  go_wp2_with fail
  refine (H3.out _ (hv.keep g3)).mono ?_
  rintro e w3 ⟨rfl, f3⟩
  have g4 := g3.trans f3
  clear f3 g3
  go_wp2_with fail
  refine (H4.out _ (hv.keep g4)).mono ?_
  rintro e w4 ⟨rfl, f4⟩
  have g5 := g4.trans f4
  clear f4 g4
  go_wp2_with fail
  refine (R5.out _).mono ?_
  rintro e wr5 ⟨rfl, b5⟩
  have g5r := g5.trans (fr_below b5)
  go_wp2_with fail
  refine (H5.out _ (hv.keep g5r)).mono ?_
  rintro e w5 ⟨rfl, f5⟩
  have g6 := g5r.trans f5
  clear f5 g5 g5r b5
  go_wp2_with fail
  refine (R6.out _).mono ?_
  rintro e wr6 ⟨rfl, b6⟩
  have g6r := g6.trans (fr_below b6)
  go_wp2_with fail
  refine (H6.out _ (hv.keep g6r)).mono ?_
  rintro e w6 ⟨rfl, f6⟩
  have g7 := g6r.trans f6
  clear f6 g6 g6r b6
  go_wp2_with fail
  refine (H7.out _ (hv.keep g7)).mono ?_
  rintro e w7 ⟨rfl, f7⟩
  have g8 := g7.trans f7
  clear f7 g7
  go_wp2_with fail
  have hS : Strs (w7.alloc (.cells (strs bads).toArray 9)) (.slice (some ⟨w7.heap.size, 0, none⟩) 9 9) bads := Strs.lit w7 bads (by decide)
  have g9 := g8.alloc (.cells (strs bads).toArray 9)
  clear g8 H0 H1 H2 H3 H4 H5 R5 H6 R6 H7
  go_loopw [2] (fun i wr => ∃ k : Nat, k ≤ 9 ∧ i = .int .i64 k ∧ Fr w wr ∧ Strs wr (.slice (some ⟨w7.heap.size, 0, none⟩) 9 9) bads) (fun i _ => 9 - (intOf i).toNat)
  case atStart => exact ⟨0, by omega, rfl, g9, hS⟩
  case round =>
    clear g9 hS
    obtain ⟨k, hk, rfl, gk, hS⟩ := hrel
    by_cases hlt : k < 9
    · obtain ⟨b1, o1, eq, _, c1⟩ := hS.at k hlt
      cases eq
      rw [Nat.zero_add] at c1
      have Hk := Lib.hid (fun w => HB.out w k hlt)
      generalize bads[k] = s at Hk c1
      have hki : (k : Int) < 9 := by omega
      have hk0 : (0 : Int) ≤ (k : Int) := by omega
      go_wp2_with fail
      refine (Hk.out _).mono ?_
      rintro e wz ⟨rfl, fz⟩
      go_wp2_with fail
      go_roundw
      case rel => exact ⟨k + 1, by omega, by go_num, gk.trans fz, hS.keepF fz⟩
      case measure => simp [intOf]; omega
    · have hk9 : (k : Int) = 9 := by omega
      rw [hk9]
      clear hk9 hk hlt
      clear HB hS
      go_wp2_with fail
      have hS : Strs (wr.alloc (.cells (strs nones).toArray 9)) (.slice (some ⟨wr.heap.size, 0, none⟩) 16 16) nones := Strs.lit wr nones (by decide)
      have g10 := gk.alloc (.cells (strs nones).toArray 9)
      clear gk
      generalize wr.heap.size = blk at *
      go_loopw [4] (fun i wr => ∃ k : Nat, k ≤ 16 ∧ i = .int .i64 k ∧ Fr w wr ∧ Strs wr (.slice (some ⟨blk, 0, none⟩) 16 16) nones) (fun i _ => 16 - (intOf i).toNat)
      case atStart => exact ⟨0, by omega, rfl, g10, hS⟩
      case round =>
        clear g10 hS
        obtain ⟨k, hk, rfl, gk, hS⟩ := hrel
        by_cases hlt : k < 16
        · obtain ⟨b1, o1, eq, _, c1⟩ := hS.at k hlt
          cases eq
          rw [Nat.zero_add] at c1
          have Hk := Lib.hid (fun w hv => HN.out w hv k hlt)
          generalize nones[k] = s at Hk c1
          have hki : (k : Int) < 16 := by omega
          have hk0 : (0 : Int) ≤ (k : Int) := by omega
          go_wp2_with fail
          refine (Hk.out _ (hv.keep gk)).mono ?_
          rintro e wz ⟨rfl, fz⟩
          go_wp2_with fail
          go_roundw
          case rel => exact ⟨k + 1, by omega, by go_num, gk.trans fz, hS.keepF fz⟩
          case measure => simp [intOf]; omega
        · have hk16 : (k : Int) = 16 := by omega
          rw [hk16]
          clear hk16 hk hlt
          clear HN hS
          have x0 := gk
          clear gk
          go_wp2_with fail
          refine (K1.out _).mono ?_
          rintro e y0 ⟨rfl, f0⟩
          have x1 := x0.trans f0
          clear x0 f0 K1
          go_wp2_with fail
          refine (K2.out _).mono ?_
          rintro e y1 ⟨rfl, f1⟩
          have x2 := x1.trans f1
          clear x1 f1 K2
          go_wp2_with fail
          refine (K3.out _).mono ?_
          rintro e y2 ⟨rfl, f2⟩
          have x3 := x2.trans f2
          clear x2 f2 K3
          go_wp2_with fail
          refine (K4.out _).mono ?_
          rintro e y3 ⟨rfl, f3⟩
          have x4 := x3.trans f3
          clear x3 f3 K4
          go_wp2_with fail
          refine (CY.out _ (hv.keep x4)).mono ?_
          rintro e y4 ⟨rfl, f4⟩
          have x5 := x4.trans f4
          clear x4 f4 CY
          go_wp2_with fail
          refine (N1.out _).mono ?_
          rintro e y5 ⟨rfl, f5⟩
          have x6 := x5.trans f5
          clear x5 f5 N1
          go_wp2_with fail
          refine (N2.out _).mono ?_
          rintro e y6 ⟨rfl, f6⟩
          have x7 := x6.trans f6
          clear x6 f6 N2
          go_wp2_with fail
          refine (S1.out _ (hv.keep x7)).mono ?_
          rintro e y7 ⟨rfl, f7⟩
          have x8 := x7.trans f7
          clear x7 f7 S1
          go_wp2_with fail
          refine (S2.out _ (hv.keep x8)).mono ?_
          rintro e y8 ⟨rfl, f8⟩
          have x9 := x8.trans f8
          clear x8 f8 S2
          go_wp2_with fail
          refine (S3.out _ (hv.keep x9)).mono ?_
          rintro e y9 ⟨rfl, f9⟩
          have x10 := x9.trans f9
          clear x9 f9 S3
          go_wp2_with fail
          refine (U0.out _ (hv.keep x10)).mono ?_
          rintro e y10 ⟨rfl, f10⟩
          have x11 := x10.trans f10
          clear x10 f10 U0
          go_wp2_with fail
          refine (U1.out _ (hv.keep x11)).mono ?_
          rintro e y11 ⟨rfl, f11⟩
          have x12 := x11.trans f11
          clear x11 f11 U1
          go_wp2_with fail
          refine (U2.out _ (hv.keep x12)).mono ?_
          rintro e y12 ⟨rfl, f12⟩
          have x13 := x12.trans f12
          clear x12 f12 U2
          go_wp2_with fail
          refine (U3.out _ (hv.keep x13)).mono ?_
          rintro e y13 ⟨rfl, f13⟩
          have x14 := x13.trans f13
          clear x13 f13 U3
          go_wp2_with fail
          refine (U4.out _ (hv.keep x14)).mono ?_
          rintro e y14 ⟨rfl, f14⟩
          have x15 := x14.trans f14
          clear x14 f14 U4
          go_wp2_with fail
          refine (U5.out _ (hv.keep x15)).mono ?_
          rintro e y15 ⟨rfl, f15⟩
          have x16 := x15.trans f15
          clear x15 f15 U5
          go_wp2_with fail
          refine (U6.out _ (hv.keep x16)).mono ?_
          rintro e y16 ⟨rfl, f16⟩
          have x17 := x16.trans f16
          clear x16 f16 U6
          go_wp2_with fail
          refine (UA.out _).mono ?_
          rintro e ya ⟨vu, rfl, ou, fa, _⟩
          have xa := (x17.alloc (.cells (strs [[97], [98]]).toArray 9)).trans fa
          obtain ⟨bu, cu, rfl, _, _⟩ := Row.slice ou
          dsimp only [List.getLast?_cons_cons, List.getLast?_singleton, List.getLast?, List.getLast, Option.getD, List.dropLast] at ou ⊢
          clear x17 fa UA
          go_wp2_with fail
          refine (UB.out _).mono ?_
          rintro e yb ⟨vn, rfl, on, fb, _⟩
          have xb := xa.trans fb
          have ou1 := ou.reads.keepF fb
          obtain ⟨bn, cn, rfl, _, _⟩ := Row.slice on
          dsimp only [List.getLast?_cons_cons, List.getLast?_singleton, List.getLast?, List.getLast, Option.getD, List.dropLast, List.length_nil, List.length_cons] at on ⊢
          clear xa fb UB ou
          go_wp2_with fail
          refine (same_yes _ _ [[97]] _ (ou1.keepF ((Frm.refl _ _).alloc _)) (Strs.lit yb [[97]] (by decide))).mono ?_
          rintro e yc ⟨rfl, fc⟩
          have xc := (xb.alloc (.cells (strs [[97]]).toArray 9)).trans fc
          clear xb fc ou1
          go_wp2_with fail
          have A1 : Strs (yc.alloc (.cells (strs [[97], [98], [99]]).toArray 9)) (.slice (some ⟨yc.heap.size, 0, none⟩) 3 3) [[97], [98], [99]] := Strs.lit yc _ (by decide)
          have A2 : Strs ((yc.alloc (.cells (strs [[97], [98], [99]]).toArray 9)).alloc (.cells (strs [[97], [98]]).toArray 9)) (.slice (some ⟨yc.heap.size + 1, 0, none⟩) 2 2) [[97], [98]] := by
            have h := Strs.lit (yc.alloc (.cells (strs [[97], [98], [99]]).toArray 9)) [[97], [98]] (by decide)
            rw [World.size_alloc] at h
            exact h
          have A3 : Strs (((yc.alloc (.cells (strs [[97], [98], [99]]).toArray 9)).alloc (.cells (strs [[97], [98]]).toArray 9)).alloc (.cells (strs [[120]]).toArray 9)) (.slice (some ⟨yc.heap.size + 1 + 1, 0, none⟩) 1 1) [[120]] := by
            have h := Strs.lit ((yc.alloc (.cells (strs [[97], [98], [99]]).toArray 9)).alloc (.cells (strs [[97], [98]]).toArray 9)) [[120]] (by decide)
            rw [World.size_alloc, World.size_alloc] at h
            exact h
          have hm := move_any _ _ _ _ _ _ _ ((A1.keepF ((Frm.refl _ _).alloc _)).keepF ((Frm.refl _ _).alloc _)) (A2.keepF ((Frm.refl _ _).alloc _)) A3 (by decide) (by decide)
          rw [show move [[97], [98], [99]] [[97], [98]] [[120]] = [[120], [99]] from by decide] at hm
          have xd := ((xc.alloc (.cells (strs [[97], [98], [99]]).toArray 9)).alloc (.cells (strs [[97], [98]]).toArray 9)).alloc (.cells (strs [[120]]).toArray 9)
          clear xc A1 A2 A3
          refine hm.mono ?_
          clear hm
          rintro e yd ⟨vm, rfl, om, fd, _⟩
          have xe := xd.trans fd
          clear xd fd
          obtain ⟨bm, cm, rfl, _, _⟩ := Row.slice om
          dsimp only [List.length_nil, List.length_cons] at om ⊢
          go_wp2_with fail
          refine (same_yes _ _ [[120], [99]] _ (om.reads.keepF ((Frm.refl _ _).alloc _)) (Strs.lit yd [[120], [99]] (by decide))).mono ?_
          rintro e ye ⟨rfl, fe⟩
          have xf := (xe.alloc (.cells (strs [[120], [99]]).toArray 9)).trans fe
          clear xe fe om
          go_wp2_with fail
          refine (works_any _ (hv.keep xf)).mono ?_
          rintro e yf ⟨rfl, ff⟩
          go_wp2_with fail
          go_ret
          exact ⟨rfl, xf.trans ff⟩
end Go.Proofs.YtffhakomnkicoaaDoor
