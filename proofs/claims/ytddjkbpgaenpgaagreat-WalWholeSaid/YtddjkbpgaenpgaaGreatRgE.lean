/- What a log block and a header are read as: parse, what must be, complete, generation. No condition. -/
import Derived.Test.YtddjkbpgaenpgaaGreatRgC
import Derived.Test.YtddjkbpgaenpgaaGreatLnN
section
namespace Go.Proofs.YtddjkbpgaenpgaaGreat
open Go.RowKit Go.Shelf

/-- What parse answers. -/
def entV (i : Nat) (s : List UInt8) : Value := .agg #[.int .u16 (i : Nat), .int .u16 (fNum s : Nat), .int .u8 (fEnd s : Nat), .int .u8 (fSize s : Nat), .string (bs (fBytes s)), .int .u16 (fAgain s : Nat)]
theorem nextS_ok {k : Nat} {l : List UInt8} (h : k ≤ l.length) : nextS k l 0 = (l.take k, l.drop k, 0) := by unfold nextS; rw [if_pos h]
theorem numS_ok {k : Nat} {l : List UInt8} (h : k ≤ l.length) : numS k l 0 = (beN (l.take k), l.drop k, 0) := by unfold numS; rw [nextS_ok h]
theorem fSize_lt (s : List UInt8) : fSize s < 256 := beN_lt 1 _ (by rw [List.length_take]; omega)
theorem fBytes_len {s : List UInt8} (h : s.length = 64) : (fBytes s).length = 58 := by unfold fBytes; rw [List.length_take, List.length_drop]; omega
set_option maxRecDepth 100000 in
set_option maxHeartbeats 4000000 in
theorem parse_any (s : List UInt8) (i : Nat) (w : World) (hs : s.length = 64) (hi : i < 65536) : Calls Tryz.prog 138 #[.string (bs s), .int .i64 (i : Nat)] w fun e w' => e = .returned (entV i s) ∧ Frm (fun _ => False) w w' := by
  obtain ⟨w1, hw1⟩ : ∃ w1, w.alloc (.cells #[.int .u16 0, .int .u16 0, .int .u8 0, .int .u8 0, .string ⟨#[]⟩, .int .u16 0] 185) = w1 := ⟨_, rfl⟩
  have b1 : Blk w1 w.heap.size 185 #[.int .u16 0, .int .u16 0, .int .u8 0, .int .u8 0, .string ⟨#[]⟩, .int .u16 0] := by rw [← hw1]; exact Blk.alloc w _ _
  have g1 : Frm (fun _ => False) w w1 := by rw [← hw1]; exact (Frm.refl _ w).alloc _
  have HR := Lib.hid (cread_any s w1 (by omega))
  have hw16 : IntKind.u16.wrap (i : Int) = (i : Int) := IntWalk.u16_in _ (by omega)
  have H1 := Lib.hid (And.intro b1 g1)
  clear b1 g1
  go_enter Tryz.func138, Tryz.ntmps138
  go_wp2_with fail
  refine HR.out.mono ?_
  rintro e w2 ⟨rfl, r2, g2⟩
  have H2 := Lib.hid (And.intro (H1.out.1.keep g2 (fun h => h)) (H1.out.2.trans g2))
  obtain ⟨B, hB⟩ : ∃ B, w1.heap.size = B := ⟨_, rfl⟩
  rw [hB] at r2 ⊢
  have hBB : w.heap.size < B := by rw [← hB]; exact H1.out.1.lt
  have HN := Lib.hid hBB
  have K1 := Lib.hid (ru16_any B s 0 w2 r2)
  clear r2 g2 HR hBB hB hw1
  go_wp2_with fail
  refine K1.out.mono ?_
  rw [numS_ok (show 2 ≤ s.length by omega)]
  rintro e w3 ⟨rfl, r3, g3⟩
  have H3 := Lib.hid (And.intro (H2.out.1.keep g3 (by have := HN.out; omega)) (H2.out.2.next g3 (fun k hk e => by have := HN.out; omega)))
  have K2 := ru8_any B _ _ w3 r3
  rw [numS_ok (show 1 ≤ (s.drop 2).length by rw [List.length_drop]; omega), List.drop_drop] at K2
  have K2 := Lib.hid K2
  clear r3 g3 K1
  go_wp2_with fail
  refine K2.out.mono ?_
  rintro e w4 ⟨rfl, r4, g4⟩
  have H4 := Lib.hid (And.intro (H3.out.1.keep g4 (by have := HN.out; omega)) (H3.out.2.next g4 (fun k hk e => by have := HN.out; omega)))
  have K3 := ru8_any B _ _ w4 r4
  rw [numS_ok (show 1 ≤ (s.drop (2 + 1)).length by rw [List.length_drop]; omega), List.drop_drop] at K3
  have K3 := Lib.hid K3
  clear r4 g4 K2
  go_wp2_with fail
  refine K3.out.mono ?_
  rintro e w5 ⟨rfl, r5, g5⟩
  have H5 := Lib.hid (And.intro (H4.out.1.keep g5 (by have := HN.out; omega)) (H4.out.2.next g5 (fun k hk e => by have := HN.out; omega)))
  have K4 := fixed_pos B _ _ 58 w5 r5 (by decide)
  rw [nextS_ok (show 58 ≤ (s.drop (2 + 1 + 1)).length by rw [List.length_drop]; omega), List.drop_drop] at K4
  have K4 := Lib.hid K4
  clear r5 g5 K3
  go_wp2_with fail
  refine K4.out.mono ?_
  rintro e w6 ⟨rfl, r6, g6⟩
  have H6 := Lib.hid (And.intro (H5.out.1.keep g6 (by have := HN.out; omega)) (H5.out.2.next g6 (fun k hk e => by have := HN.out; omega)))
  have K5 := ru16_any B _ _ w6 r6
  rw [numS_ok (show 2 ≤ (s.drop (2 + 1 + 1 + 58)).length by rw [List.length_drop]; omega)] at K5
  have K5 := Lib.hid K5
  clear r6 g6 K4
  go_wp2_with fail
  refine K5.out.mono ?_
  rintro e w7 ⟨rfl, r7, g7⟩
  have H7 := Lib.hid (And.intro (H6.out.1.keep g7 (by have := HN.out; omega)) (H6.out.2.next g7 (fun k hk e => by have := HN.out; omega)))
  clear r7 g7 K5
  obtain ⟨n1, hn1⟩ : ∃ n, beN (s.take 2) = n := ⟨_, rfl⟩
  obtain ⟨n2, hn2⟩ : ∃ n, beN ((s.drop 2).take 1) = n := ⟨_, rfl⟩
  obtain ⟨n3, hn3⟩ : ∃ n, beN ((s.drop (2 + 1)).take 1) = n := ⟨_, rfl⟩
  obtain ⟨n4, hn4⟩ : ∃ n, ((s.drop (2 + 1 + 1)).take 58) = n := ⟨_, rfl⟩
  obtain ⟨n5, hn5⟩ : ∃ n, beN ((s.drop (2 + 1 + 1 + 58)).take 2) = n := ⟨_, rfl⟩
  rw [hn1, hn2, hn3, hn4, hn5]
  have hE : entV i s = .agg #[.int .u16 (i : Nat), .int .u16 (n1 : Nat), .int .u8 (n2 : Nat), .int .u8 (n3 : Nat), .string (bs n4), .int .u16 (n5 : Nat)] := by
    unfold entV fNum fEnd fSize fBytes fAgain
    rw [hn1, hn2, show (3 : Nat) = 2 + 1 from rfl, hn3, show (4 : Nat) = 2 + 1 + 1 from rfl, hn4, show (62 : Nat) = 2 + 1 + 1 + 58 from rfl, hn5]
  have HE := Lib.hid hE
  clear hn1 hn2 hn3 hn4 hn5 hE
  have c0 := H7.out.1
  have k0 := c0.cell 0 rfl
  have f0 := c0.free 0
  have k1 := c0.cell 1 rfl
  have f1 := c0.free 1
  have k2 := c0.cell 2 rfl
  have f2 := c0.free 2
  have k3 := c0.cell 3 rfl
  have f3 := c0.free 3
  have k4 := c0.cell 4 rfl
  have f4 := c0.free 4
  have k5 := c0.cell 5 rfl
  have f5 := c0.free 5
  have HC := Lib.hid c0
  clear c0
  go_wp2_with fail
  have hb := (((((HC.out.set 0 (.int .u16 (i : Nat))).set 1 (.int .u16 (n1 : Nat))).set 2 (.int .u8 (n2 : Nat))).set 3 (.int .u8 (n3 : Nat))).set 4 (.string (bs n4))).set 5 (.int .u16 (n5 : Nat))
  have gE : Frm (fun _ => False) w ((((((w7.setCell ⟨w.heap.size, 0, none⟩ (.int .u16 (i : Nat))).setCell ⟨w.heap.size, 1, none⟩ (.int .u16 (n1 : Nat))).setCell ⟨w.heap.size, 2, none⟩ (.int .u8 (n2 : Nat))).setCell ⟨w.heap.size, 3, none⟩ (.int .u8 (n3 : Nat))).setCell ⟨w.heap.size, 4, none⟩ (.string (bs n4))).setCell ⟨w.heap.size, 5, none⟩ (.int .u16 (n5 : Nat))) :=
    (((((H7.out.2.setCell (fun h => absurd h (Nat.lt_irrefl _)) _).setCell (fun h => absurd h (Nat.lt_irrefl _)) _).setCell (fun h => absurd h (Nat.lt_irrefl _)) _).setCell (fun h => absurd h (Nat.lt_irrefl _)) _).setCell (fun h => absurd h (Nat.lt_irrefl _)) _).setCell (fun h => absurd h (Nat.lt_irrefl _)) _
  generalize (((((w7.setCell ⟨w.heap.size, 0, none⟩ (.int .u16 (i : Nat))).setCell ⟨w.heap.size, 1, none⟩ (.int .u16 (n1 : Nat))).setCell ⟨w.heap.size, 2, none⟩ (.int .u8 (n2 : Nat))).setCell ⟨w.heap.size, 3, none⟩ (.int .u8 (n3 : Nat))).setCell ⟨w.heap.size, 4, none⟩ (.string (bs n4))).setCell ⟨w.heap.size, 5, none⟩ (.int .u16 (n5 : Nat)) = W at hb gE ⊢
  have d0 := hb.cell 0 rfl
  have d1 := hb.cell 1 rfl
  have d2 := hb.cell 2 rfl
  have d3 := hb.cell 3 rfl
  have d4 := hb.cell 4 rfl
  have d5 := hb.cell 5 rfl
  refine bodyPost_ret (v := .agg #[.int .u16 (i : Nat), .int .u16 (n1 : Nat), .int .u8 (n2 : Nat), .int .u8 (n3 : Nat), .string (bs n4), .int .u16 (n5 : Nat)]) (by simp [results, Tryz.results138, go_sem, d0, d1, d2, d3, d4, d5]) rfl ⟨by rw [HE.out], gE⟩
end Go.Proofs.YtddjkbpgaenpgaaGreat
end
section
namespace Go.Proofs.YtddjkbpgaenpgaaGreat
open Go.RowKit Go.Shelf

/-- A rule of an entry, as a function value's contract. -/
def RuleE (F : FuncId) (A : Value) (b : Bool) : Prop := ∀ W, Calls Tryz.prog F #[A] W fun e W' => e = .returned (.bool b) ∧ Frm (fun _ => False) W W'
set_option maxRecDepth 100000 in
set_option maxHeartbeats 2000000 in
theorem rg_ends (i : Nat) (s : List UInt8) : RuleE 141 (entV i s) (decide (fEnd s = 1)) := by
  intro w
  obtain ⟨n1, hn1⟩ : ∃ n, fNum s = n := ⟨_, rfl⟩
  obtain ⟨n2, hn2⟩ : ∃ n, fEnd s = n := ⟨_, rfl⟩
  obtain ⟨n3, hn3⟩ : ∃ n, fSize s = n := ⟨_, rfl⟩
  obtain ⟨n4, hn4⟩ : ∃ n, fBytes s = n := ⟨_, rfl⟩
  obtain ⟨n5, hn5⟩ : ∃ n, fAgain s = n := ⟨_, rfl⟩
  unfold entV
  simp only [hn1, hn2, hn3, hn4, hn5]
  have hb : ((n2 : Int) == 1) = decide (n2 = 1) := by rw [Bool.eq_iff_iff]; simp; omega
  clear hn1 hn2 hn3 hn4 hn5
  have gA : Frm (fun _ => False) w (w.alloc (.cells #[.int .u16 (i : Nat), .int .u16 (n1 : Nat), .int .u8 (n2 : Nat), .int .u8 (n3 : Nat), .string (bs n4), .int .u16 (n5 : Nat)] 185)) := (Frm.refl _ w).alloc _
  go_enter Tryz.func141, Tryz.ntmps141
  go_wp2_with fail
  go_ret
  exact ⟨rfl, gA⟩
set_option maxRecDepth 100000 in
set_option maxHeartbeats 2000000 in
theorem rg_begun (i : Nat) (s : List UInt8) : RuleE 164 (entV i s) (decide (fNum s = i)) := by
  intro w
  obtain ⟨n1, hn1⟩ : ∃ n, fNum s = n := ⟨_, rfl⟩
  obtain ⟨n2, hn2⟩ : ∃ n, fEnd s = n := ⟨_, rfl⟩
  obtain ⟨n3, hn3⟩ : ∃ n, fSize s = n := ⟨_, rfl⟩
  obtain ⟨n4, hn4⟩ : ∃ n, fBytes s = n := ⟨_, rfl⟩
  obtain ⟨n5, hn5⟩ : ∃ n, fAgain s = n := ⟨_, rfl⟩
  unfold entV
  simp only [hn1, hn2, hn3, hn4, hn5]
  have hb : ((n1 : Int) == (i : Int)) = decide (n1 = i) := by rw [Bool.eq_iff_iff]; simp; omega
  clear hn1 hn2 hn3 hn4 hn5
  have gA : Frm (fun _ => False) w (w.alloc (.cells #[.int .u16 (i : Nat), .int .u16 (n1 : Nat), .int .u8 (n2 : Nat), .int .u8 (n3 : Nat), .string (bs n4), .int .u16 (n5 : Nat)] 185)) := (Frm.refl _ w).alloc _
  go_enter Tryz.func164, Tryz.ntmps164
  go_wp2_with fail
  go_ret
  exact ⟨rfl, gA⟩
set_option maxRecDepth 100000 in
set_option maxHeartbeats 2000000 in
theorem rg_finished (i : Nat) (s : List UInt8) : RuleE 165 (entV i s) (decide (fAgain s = i)) := by
  intro w
  obtain ⟨n1, hn1⟩ : ∃ n, fNum s = n := ⟨_, rfl⟩
  obtain ⟨n2, hn2⟩ : ∃ n, fEnd s = n := ⟨_, rfl⟩
  obtain ⟨n3, hn3⟩ : ∃ n, fSize s = n := ⟨_, rfl⟩
  obtain ⟨n4, hn4⟩ : ∃ n, fBytes s = n := ⟨_, rfl⟩
  obtain ⟨n5, hn5⟩ : ∃ n, fAgain s = n := ⟨_, rfl⟩
  unfold entV
  simp only [hn1, hn2, hn3, hn4, hn5]
  have hb : ((n5 : Int) == (i : Int)) = decide (n5 = i) := by rw [Bool.eq_iff_iff]; simp; omega
  clear hn1 hn2 hn3 hn4 hn5
  have gA : Frm (fun _ => False) w (w.alloc (.cells #[.int .u16 (i : Nat), .int .u16 (n1 : Nat), .int .u8 (n2 : Nat), .int .u8 (n3 : Nat), .string (bs n4), .int .u16 (n5 : Nat)] 185)) := (Frm.refl _ w).alloc _
  go_enter Tryz.func165, Tryz.ntmps165
  go_wp2_with fail
  go_ret
  exact ⟨rfl, gA⟩
set_option maxRecDepth 100000 in
set_option maxHeartbeats 2000000 in
theorem rg_fits (i : Nat) (s : List UInt8) : RuleE 167 (entV i s) (decide (fSize s ≤ 58)) := by
  intro w
  obtain ⟨n1, hn1⟩ : ∃ n, fNum s = n := ⟨_, rfl⟩
  obtain ⟨n2, hn2⟩ : ∃ n, fEnd s = n := ⟨_, rfl⟩
  obtain ⟨n3, hn3⟩ : ∃ n, fSize s = n := ⟨_, rfl⟩
  obtain ⟨n4, hn4⟩ : ∃ n, fBytes s = n := ⟨_, rfl⟩
  obtain ⟨n5, hn5⟩ : ∃ n, fAgain s = n := ⟨_, rfl⟩
  unfold entV
  simp only [hn1, hn2, hn3, hn4, hn5]
  have hb : decide ((n3 : Int) ≤ 58) = decide (n3 ≤ 58) := by rw [Bool.eq_iff_iff]; simp; omega
  clear hn1 hn2 hn3 hn4 hn5
  have gA : Frm (fun _ => False) w (w.alloc (.cells #[.int .u16 (i : Nat), .int .u16 (n1 : Nat), .int .u8 (n2 : Nat), .int .u8 (n3 : Nat), .string (bs n4), .int .u16 (n5 : Nat)] 185)) := (Frm.refl _ w).alloc _
  go_enter Tryz.func167, Tryz.ntmps167
  go_wp2_with fail
  go_ret
  exact ⟨rfl, gA⟩
set_option maxRecDepth 100000 in
set_option maxHeartbeats 2000000 in
theorem rg_plain (i : Nat) (s : List UInt8) : RuleE 166 (entV i s) (decide (fEnd s ≤ 1)) := by
  intro w
  obtain ⟨n1, hn1⟩ : ∃ n, fNum s = n := ⟨_, rfl⟩
  obtain ⟨n2, hn2⟩ : ∃ n, fEnd s = n := ⟨_, rfl⟩
  obtain ⟨n3, hn3⟩ : ∃ n, fSize s = n := ⟨_, rfl⟩
  obtain ⟨n4, hn4⟩ : ∃ n, fBytes s = n := ⟨_, rfl⟩
  obtain ⟨n5, hn5⟩ : ∃ n, fAgain s = n := ⟨_, rfl⟩
  unfold entV
  simp only [hn1, hn2, hn3, hn4, hn5]
  clear hn1 hn2 hn3 hn4 hn5
  have gA : Frm (fun _ => False) w (w.alloc (.cells #[.int .u16 (i : Nat), .int .u16 (n1 : Nat), .int .u8 (n2 : Nat), .int .u8 (n3 : Nat), .string (bs n4), .int .u16 (n5 : Nat)] 185)) := (Frm.refl _ w).alloc _
  by_cases e0 : n2 = 0
  · subst e0
    rw [decide_eq_true (by omega)]
    go_enter Tryz.func166, Tryz.ntmps166
    go_wp2_with fail
    go_ret
    exact ⟨rfl, gA⟩
  · have h0 : ((n2 : Int) == 0) = false := by rw [beq_eq_false_iff_ne]; omega
    have h1 : ((n2 : Int) == 1) = decide (n2 ≤ 1) := by rw [Bool.eq_iff_iff]; simp; omega
    clear e0
    go_enter Tryz.func166, Tryz.ntmps166
    go_wp2_with fail
    go_ret
    exact ⟨rfl, gA⟩
set_option maxRecDepth 100000 in
set_option maxHeartbeats 2000000 in
theorem rg_piece (i : Nat) (s : List UInt8) (hs : s.length = 64) (w : World) : Calls Tryz.prog 140 #[entV i s] w fun e W' => e = .returned (.string (bs (pieceB s))) ∧ Frm (fun _ => False) w W' := by
  have hl := fBytes_len hs
  have h3 := fSize_lt s
  unfold pieceB
  obtain ⟨n1, hn1⟩ : ∃ n, fNum s = n := ⟨_, rfl⟩
  obtain ⟨n2, hn2⟩ : ∃ n, fEnd s = n := ⟨_, rfl⟩
  obtain ⟨n3, hn3⟩ : ∃ n, fSize s = n := ⟨_, rfl⟩
  obtain ⟨n4, hn4⟩ : ∃ n, fBytes s = n := ⟨_, rfl⟩
  obtain ⟨n5, hn5⟩ : ∃ n, fAgain s = n := ⟨_, rfl⟩
  unfold entV
  simp only [hn1, hn2, hn3, hn4, hn5]
  rw [hn4] at hl
  rw [hn3] at h3
  clear hn1 hn2 hn3 hn4 hn5
  have gA : Frm (fun _ => False) w (w.alloc (.cells #[.int .u16 (i : Nat), .int .u16 (n1 : Nat), .int .u8 (n2 : Nat), .int .u8 (n3 : Nat), .string (bs n4), .int .u16 (n5 : Nat)] 185)) := (Frm.refl _ w).alloc _
  have hsz : (bs n4).size = 58 := hl
  have hm : min (n3 : Int) 58 = ((min n3 58 : Nat) : Int) := by omega
  have hE : bs (n4.take n3) = (bs n4).extract 0 (min n3 58) := by
    rw [bs_take]
    congr 1
    by_cases h : n3 ≤ 58
    · rw [Nat.min_eq_left h]
    · rw [Nat.min_eq_right (by omega), List.take_of_length_le (by omega), List.take_of_length_le (by omega)]
  rw [hE]
  obtain ⟨m, hmm⟩ : ∃ m, min n3 58 = m := ⟨_, rfl⟩
  rw [hmm] at hm ⊢
  have hm58 : m ≤ 58 := by omega
  have hw8 : IntKind.i64.wrap (n3 : Int) = (n3 : Int) := IntWalk.i64_in _ (by omega)
  clear hmm hE hl
  go_enter Tryz.func140, Tryz.ntmps140
  go_wp2_with fail
  go_ret
  exact ⟨rfl, gA⟩
end Go.Proofs.YtddjkbpgaenpgaaGreat
end
