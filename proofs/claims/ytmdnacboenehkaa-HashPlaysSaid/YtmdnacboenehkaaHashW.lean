/- An index that a call has made for itself; what awake answers. No condition. -/
import Derived.Test.YtmdnacboenehkaaHashN
import Derived.Test.YtmdnacboenehkaaHashD
namespace Go.Proofs.Ytmdnacboenehkaa
open Go.RowKit

/-- An index that was made since w0. -/
def HL (w0 w : World) (b : Nat) (L : Nat → List Nat) : Prop := ∃ fp, Hx w b L fp ∧ Frm (fun _ => False) w0 w ∧ ∀ k, fp k → w0.heap.size ≤ k
section
variable {w0 w w' : World} {b : Nat} {L : Nat → List Nat}
theorem HL.frm (h : HL w0 w b L) : Frm (fun _ => False) w0 w := by
  obtain ⟨_, _, f, _⟩ := h; exact f
theorem HL.keep (h : HL w0 w b L) (f : Frm (fun _ => False) w w') : HL w0 w' b L := by
  obtain ⟨fp, h1, h2, h3⟩ := h
  exact ⟨fp, h1.keepF f, h2.trans f, h3⟩
theorem HL.to {fp : Nat → Prop} {L' : Nat → List Nat} {r : Nat} {e : Ending} (h2 : Frm (fun _ => False) w0 w) (h3 : ∀ k, fp k → w0.heap.size ≤ k) (h : HxTo b L' fp r w e w') : e = .returned (.int .i64 r) ∧ HL w0 w' b L' := by
  obtain ⟨he, fp', h4, h5, h6⟩ := h
  exact ⟨he, fp', h4, h2.next h5 (fun k hk e => by have := h3 k e; omega), fun k hk => (h6 k hk).elim (h3 k) (fun e => Nat.le_trans h2.size e)⟩
end
theorem new_own (w0 w : World) (f : Frm (fun _ => False) w0 w) :
    Calls Try.prog 11 #[] w fun e w' => ∃ b, e = .returned (.pointer (some ⟨b, 0, none⟩)) ∧ HL w0 w' b (sel []) :=
  (new_any w).mono fun e w' ⟨h1, h2, h3, _⟩ => ⟨_, h1, _, h2, f.trans h3, fun k hk => by rw [hk]; exact f.size⟩
theorem add_own (w0 w : World) (b : Nat) (s : List UInt8) (id : Nat) (I : List (Nat × Nat)) (h : HL w0 w b (sel I)) (hs : s.length ≤ 9223372036854775807) (hl : I.length ≤ 900000) :
    Calls Try.prog 17 #[.pointer (some ⟨b, 0, none⟩), .string (bs s), .int .u32 id] w fun e w' => e = .returned (.int .i64 (addR I (bk s) id)) ∧ HL w0 w' b (sel (addI I (bk s) id)) := by
  obtain ⟨fp, h1, h2, h3⟩ := h
  exact (add_any b s id I fp w h1 hs hl).mono fun e w' r => HL.to h2 h3 r
theorem drop_own (w0 w : World) (b : Nat) (s : List UInt8) (id : Nat) (I : List (Nat × Nat)) (h : HL w0 w b (sel I)) (hs : s.length ≤ 9223372036854775807) (hl : I.length ≤ 900000) :
    Calls Try.prog 19 #[.pointer (some ⟨b, 0, none⟩), .string (bs s), .int .u32 id] w fun e w' => e = .returned (.int .i64 (dropR I (bk s) id)) ∧ HL w0 w' b (sel (I.erase (bk s, id))) := by
  obtain ⟨fp, h1, h2, h3⟩ := h
  exact (drop_any b s id I fp w h1 hs hl).mono fun e w' r => HL.to h2 h3 r
theorem len_own (w0 w : World) (b : Nat) (I : List (Nat × Nat)) (h : HL w0 w b (sel I)) (hl : I.length ≤ 900000) (hI : ∀ p ∈ I, p.1 < 16) :
    Calls Try.prog 13 #[.pointer (some ⟨b, 0, none⟩)] w fun e w' => e = .returned (.int .i64 I.length) ∧ HL w0 w' b (sel I) := by
  obtain ⟨fp, h1, h2, h3⟩ := h
  have ht := allF_total I hI
  refine (len_any b (sel I) fp w h1 (fun i _ => Nat.le_trans (sel_len I i) (by omega)) (by omega)).mono fun _ _ ⟨a, c⟩ => ?_
  rw [ht] at a
  exact ⟨a, HL.keep ⟨fp, h1, h2, h3⟩ c⟩
theorem finds_own (w0 w : World) (b : Nat) (s : List UInt8) (I : List (Nat × Nat)) (vw : Value) (h : HL w0 w b (sel I)) (hs : s.length ≤ 9223372036854775807) (hl : I.length ≤ 900000) (hw : Ids w vw (sel I (bk s))) :
    Calls Try.prog 18 #[.pointer (some ⟨b, 0, none⟩), .string (bs s), vw] w fun e w' => e = .returned (.bool true) ∧ HL w0 w' b (sel I) := by
  obtain ⟨fp, h1, h2, h3⟩ := h
  have hlen := sel_len I (bk s)
  exact (finds_yes _ _ vw _ w (find_any b s (sel I) fp w h1 hs (by omega)) hw).mono fun e w' ⟨a, c⟩ => ⟨a, HL.keep ⟨fp, h1, h2, h3⟩ c⟩
theorem bucket_own (w0 w : World) (b : Nat) (L : Nat → List Nat) (l : List UInt8) (h : HL w0 w b L) (hl : l.length ≤ 9223372036854775807) :
    Calls Try.prog 8 #[.string (bs l)] w fun e w' => e = .returned (.int .u8 (bk l : Nat)) ∧ HL w0 w' b L :=
  (bucket_any l w hl).mono fun _ _ ⟨a, c⟩ => ⟨a, h.keep (Frm.ofDrew c)⟩
theorem Ids.two (w : World) (x y : Nat) : Ids (w.alloc (.cells #[.int .u32 x, .int .u32 y] 35)) (.slice (some ⟨w.heap.size, 0, none⟩) 2 2) [x, y] := by
  refine ⟨rfl, _, 2, rfl, Nat.le_refl _, by decide, .inr ⟨_, 0, rfl, by simp, fun j hj => ?_⟩⟩
  have hb := Blk.alloc w 35 #[.int .u32 x, .int .u32 y]
  have : j = 0 ∨ j = 1 := by simp at hj; omega
  rcases this with rfl | rfl
  · exact hb.cell 0 rfl
  · exact hb.cell 1 rfl

theorem bk_ab : bk [97, 98] = 9 := by decide
theorem bk_a : bk [97] = 2 := by decide
theorem bk_q : bk [113] = 2 := by decide
theorem bk_b : bk [98] = 3 := by decide
theorem bk_ba : bk [98, 97] = 7 := by decide
theorem bk_0 : bk [] = 0 := by decide

set_option maxRecDepth 100000 in
set_option maxHeartbeats 1000000 in
theorem awake_any (w : World) : Calls Try.prog 7 #[] w fun e w' => e = .returned (.bool true) ∧ Frm (fun _ => False) w w' := by
  have a1 := fun w1 b => add_own w w1 b [97] 5 []
  have a2 := fun w1 b => add_own w w1 b [113] 6 [(2, 5)]
  rw [bk_a] at a1
  rw [bk_q] at a2
  have b1 := fun w1 b L => bucket_own w w1 b L [97, 98]
  have b2 := fun w1 b L => bucket_own w w1 b L [97]
  rw [bk_ab] at b1
  rw [bk_a] at b2
  have f1 := fun w1 b vw => finds_own w w1 b [97] [(2, 5), (2, 6)] vw
  rw [bk_a] at f1
  have l1 := fun w1 b => len_own w w1 b [(2, 5), (2, 6)]
  have A1 := Lib.hid a1
  have A2 := Lib.hid a2
  have B1 := Lib.hid b1
  have B2 := Lib.hid b2
  have F1 := Lib.hid f1
  have L1 := Lib.hid l1
  clear a1 a2 b1 b2 f1 l1
  go_enter Try.func7, Try.ntmps7
  go_wp2_with fail
  refine (new_own w _ (Frm.refl _ _)).mono ?_
  rintro e w1 ⟨b, rfl, h1⟩
  go_wp2_with fail
  refine (B1.out _ _ _ h1 (by simp)).mono ?_
  rintro e w2 ⟨rfl, h2⟩
  go_wp2_with fail
  refine (B2.out _ _ _ h2 (by simp)).mono ?_
  rintro e w3 ⟨rfl, h3⟩
  go_wp2_with fail
  refine (A1.out _ _ h3 (by simp) (by simp)).mono ?_
  rintro e w4 ⟨rfl, h4⟩
  go_wp2_with fail
  refine (A2.out _ _ h4 (by simp) (by simp)).mono ?_
  rintro e w5 ⟨rfl, h5⟩
  go_wp2_with fail
  refine (F1.out _ _ _ (h5.keep ((Frm.refl _ w5).alloc _)) (by simp) (by simp) (Ids.two w5 5 6)).mono ?_
  rintro e w6 ⟨rfl, h6⟩
  go_wp2_with fail
  refine (L1.out _ _ h6 (by simp) (by simp)).mono ?_
  rintro e w7 ⟨rfl, h7⟩
  go_wp2_with fail
  go_ret
  exact ⟨rfl, h7.frm⟩
end Go.Proofs.Ytmdnacboenehkaa
