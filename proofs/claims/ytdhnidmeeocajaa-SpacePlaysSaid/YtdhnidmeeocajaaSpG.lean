/- takes; awake: some of the chapter's answers. No condition. -/
import Derived.Test.YtdhnidmeeocajaaSpF
namespace Go.Proofs.Ytdhnidmeeocajaa
open Go.RowKit Go.Shelf

/-- A space of one's own. -/
structure Sq (w0 w : World) (s g : Nat) (S : SpV) : Prop where
  sp : SpM w s g S
  frm : Frm (fun _ => False) w0 w
  os : w0.heap.size ≤ s
  og : w0.heap.size ≤ g
section
variable {w0 w w' : World} {s g : Nat} {S S' : SpV}
theorem Sq.step (h : Sq w0 w s g S) (h1 : SpM w' s g S') (g1 : Frm (· = g) w w') : Sq w0 w' s g S' :=
  ⟨h1, h.frm.next g1 (fun k hk e => by have := h.og; omega), h.os, h.og⟩
theorem Sq.keepF (h : Sq w0 w s g S) (g1 : Frm (fun _ => False) w w') : Sq w0 w' s g S := ⟨h.sp.keepF g1, h.frm.trans g1, h.os, h.og⟩
end
set_option maxRecDepth 100000 in
set_option maxHeartbeats 1000000 in
theorem takes_any (s g k c : Nat) (q : Int) (S S' : SpV) (w : World) (h : SpM w s g S) (ht : S.take = (S', k, c)) :
    Calls Try.prog 20 #[.pointer (some ⟨s, 0, none⟩), .int .i64 q] w fun e w' => e = .returned (.bool (decide ((k : Int) = q) && decide (c = 0))) ∧ SpM w' s g S' ∧ Frm (· = g) w w' := by
  have hT := sptake_any s g S w h
  rw [ht] at hT
  unfold TakeTo at hT
  have HT := Lib.hid hT
  clear hT ht h
  by_cases h1 : (k : Int) = q
  · have h1b : ((k : Int) == q) = true := by rw [beq_iff_eq]; exact h1
    rw [decide_eq_true h1, Bool.true_and]
    have HQ := Lib.hid h1
    clear h1
    by_cases h2 : c = 0
    · rw [decide_eq_true h2]
      subst h2
      go_enter Try.func20, Try.ntmps20
      go_wp2_with fail
      refine HT.out.mono ?_
      rintro e w1 ⟨rfl, h3, g3⟩
      go_wp2_with fail
      go_ret
      exact ⟨rfl, h3, g3⟩
    · rw [decide_eq_false h2]
      have h2b : ((c : Int) == 0) = false := by rw [beq_eq_false_iff_ne]; omega
      clear h2
      go_enter Try.func20, Try.ntmps20
      go_wp2_with fail
      refine HT.out.mono ?_
      rintro e w1 ⟨rfl, h3, g3⟩
      go_wp2_with fail
      go_ret
      exact ⟨rfl, h3, g3⟩
  · have h1b : ((k : Int) == q) = false := by rw [beq_eq_false_iff_ne]; exact h1
    rw [decide_eq_false h1, Bool.false_and]
    clear h1
    go_enter Try.func20, Try.ntmps20
    go_wp2_with fail
    refine HT.out.mono ?_
    rintro e w1 ⟨rfl, h3, g3⟩
    go_wp2_with fail
    go_ret
    exact ⟨rfl, h3, g3⟩
theorem takes_yes (s g k : Nat) (S S' : SpV) (w : World) (h : SpM w s g S) (ht : S.take = (S', k, 0)) :
    Calls Try.prog 20 #[.pointer (some ⟨s, 0, none⟩), .int .i64 (k : Nat)] w fun e w' => e = .returned (.bool true) ∧ SpM w' s g S' ∧ Frm (· = g) w w' := by
  have := takes_any s g k 0 (k : Int) S S' w h ht
  rwa [decide_eq_true rfl, decide_eq_true rfl] at this
def a0 : SpV := SpV.new 100 200
def a1 : SpV := a0.flip 100
def a2 : SpV := a1.flip 101
def a3 : SpV := a2.flip 103
def a4 : SpV := a3.flip 102
def a5 : SpV := a4.flip 104
theorem a0_take : a0.take = (a1, 100, 0) := by kernel_rfl
theorem a1_take : a1.take = (a2, 101, 0) := by kernel_rfl
theorem a2_use : a2.use 103 = (a3, 0) := by kernel_rfl
theorem a3_take : a3.take = (a4, 102, 0) := by kernel_rfl
theorem a4_take : a4.take = (a5, 104, 0) := by kernel_rfl
theorem a0_len : a0.all.length = 100 := by kernel_rfl
theorem a5_len : a5.all.length = 95 := by kernel_rfl
/-- A new space, of which the numbers are known. -/
theorem spnew_yes (a n : Nat) (w : World) (h : maySp a n = true) (h1 : a < 10000) (h2 : n < 10000) : Calls Try.prog 9 #[.int .i64 (a : Nat), .int .i64 (n : Nat)] w fun e w' => ∃ s g, e = .returned (.pointer (some ⟨s, 0, none⟩)) ∧ Sq w w' s g (SpV.new a n) := by
  have := spnew_any (a : Int) (n : Int) w ⟨by omega, by omega⟩ ⟨by omega, by omega⟩
  unfold NewSpTo at this
  simp only [h, if_true, Int.toNat_natCast] at this
  exact this.mono fun e w' ⟨v, h1, s, g, h2, h3, h4, h5, h6⟩ => ⟨s, g, by rw [h1, h2], h3, h6, h4, h5⟩
set_option maxRecDepth 100000 in
set_option maxHeartbeats 4000000 in
theorem awake15_any (w : World) : Calls Try.prog 6 #[] w fun e w' => e = .returned (.bool true) ∧ Frm (fun _ => False) w w' := by
  have HN := Lib.hid (spnew_yes 100 200 w (by kernel_rfl) (by decide) (by decide))
  go_enter Try.func6, Try.ntmps6
  go_wp2_with fail
  refine HN.out.mono ?_
  rintro e w1 ⟨s, g, rfl, hM⟩
  have H1 := Lib.hid (show Sq w w1 s g a0 from hM)
  have hc := spcount_any s g a0 w1 H1.out.sp
  rw [a0_len] at hc
  have HC := Lib.hid hc
  clear hM HN hc
  go_wp2_with fail
  refine HC.out.mono ?_
  rintro e w2 ⟨rfl, g2⟩
  have H2 := Lib.hid (H1.out.keepF g2)
  have HT := Lib.hid (takes_yes s g 100 a0 a1 w2 H2.out.sp a0_take)
  clear g2 HC H1
  go_wp2_with fail
  refine HT.out.mono ?_
  rintro e w3 ⟨rfl, h3, g3⟩
  have H3 := Lib.hid (H2.out.step h3 g3)
  have HT := Lib.hid (takes_yes s g 101 a1 a2 w3 H3.out.sp a1_take)
  clear h3 g3 H2
  go_wp2_with fail
  refine HT.out.mono ?_
  rintro e w4 ⟨rfl, h4, g4⟩
  have H4 := Lib.hid (H3.out.step h4 g4)
  have hu := spuse_any s g a2 103 w4 H4.out.sp
  rw [a2_use] at hu
  unfold SpTo at hu
  have HU := Lib.hid hu
  clear h4 g4 H3 HT hu
  go_wp2_with fail
  refine HU.out.mono ?_
  rintro e w5 ⟨rfl, h5, g5⟩
  have H5 := Lib.hid (H4.out.step h5 g5)
  have HT := Lib.hid (takes_yes s g 102 a3 a4 w5 H5.out.sp a3_take)
  clear h5 g5 H4 HU
  go_wp2_with fail
  refine HT.out.mono ?_
  rintro e w6 ⟨rfl, h6, g6⟩
  have H6 := Lib.hid (H5.out.step h6 g6)
  have HT := Lib.hid (takes_yes s g 104 a4 a5 w6 H6.out.sp a4_take)
  clear h6 g6 H5
  go_wp2_with fail
  refine HT.out.mono ?_
  rintro e w7 ⟨rfl, h7, g7⟩
  have H7 := Lib.hid (H6.out.step h7 g7)
  have hc := spcount_any s g a5 w7 H7.out.sp
  rw [a5_len] at hc
  have HC := Lib.hid hc
  clear h7 g7 H6 HT hc
  go_wp2_with fail
  refine HC.out.mono ?_
  rintro e w8 ⟨rfl, g8⟩
  have H8 := Lib.hid (H7.out.keepF g8)
  clear g8 HC H7
  go_wp2_with fail
  go_ret
  exact ⟨rfl, H8.out.frm⟩
end Go.Proofs.Ytdhnidmeeocajaa
