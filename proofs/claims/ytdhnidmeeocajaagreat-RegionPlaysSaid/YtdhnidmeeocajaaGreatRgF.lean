/- What must be of a log block and of a header: each rule, and all of them. No condition. -/
import Derived.Test.YtdhnidmeeocajaaGreatRgD
section
namespace Go.Proofs.YtdhnidmeeocajaaGreat
open Go.RowKit Go.Shelf

/-- A rule of an entry, as a function value's contract. -/
def RuleE (F : FuncId) (A : Value) (b : Bool) : Prop := ∀ W, Calls Tryz.prog F #[A] W fun e W' => e = .returned (.bool b) ∧ Frm (fun _ => False) W W'
set_option maxRecDepth 100000 in
set_option maxHeartbeats 2000000 in
theorem rg_ends (i : Nat) (s : List UInt8) : RuleE 109 (entV i s) (decide (fEnd s = 1)) := by
  intro w
  obtain ⟨n1, hn1⟩ : ∃ n, fNum s = n := ⟨_, rfl⟩
  obtain ⟨n2, hn2⟩ : ∃ n, fEnd s = n := ⟨_, rfl⟩
  obtain ⟨n3, hn3⟩ : ∃ n, fSize s = n := ⟨_, rfl⟩
  obtain ⟨n4, hn4⟩ : ∃ n, fBytes s = n := ⟨_, rfl⟩
  obtain ⟨n5, hn5⟩ : ∃ n, fAgain s = n := ⟨_, rfl⟩
  unfold entV
  simp only [hn1, hn2, hn3, hn4, hn5]
  have hb : ((n2 : Int) == 1) = decide (n2 = 1) := by rw [Bool.eq_iff_iff]; simp; omega
  clear hn1 hn2 hn3 hn4 hn5
  have gA : Frm (fun _ => False) w (w.alloc (.cells #[.int .u16 (i : Nat), .int .u16 (n1 : Nat), .int .u8 (n2 : Nat), .int .u8 (n3 : Nat), .string (bs n4), .int .u16 (n5 : Nat)] 157)) := (Frm.refl _ w).alloc _
  go_enter Tryz.func109, Tryz.ntmps109
  go_wp2_with fail
  go_ret
  exact ⟨rfl, gA⟩
set_option maxRecDepth 100000 in
set_option maxHeartbeats 2000000 in
theorem rg_begun (i : Nat) (s : List UInt8) : RuleE 128 (entV i s) (decide (fNum s = i)) := by
  intro w
  obtain ⟨n1, hn1⟩ : ∃ n, fNum s = n := ⟨_, rfl⟩
  obtain ⟨n2, hn2⟩ : ∃ n, fEnd s = n := ⟨_, rfl⟩
  obtain ⟨n3, hn3⟩ : ∃ n, fSize s = n := ⟨_, rfl⟩
  obtain ⟨n4, hn4⟩ : ∃ n, fBytes s = n := ⟨_, rfl⟩
  obtain ⟨n5, hn5⟩ : ∃ n, fAgain s = n := ⟨_, rfl⟩
  unfold entV
  simp only [hn1, hn2, hn3, hn4, hn5]
  have hb : ((n1 : Int) == (i : Int)) = decide (n1 = i) := by rw [Bool.eq_iff_iff]; simp; omega
  clear hn1 hn2 hn3 hn4 hn5
  have gA : Frm (fun _ => False) w (w.alloc (.cells #[.int .u16 (i : Nat), .int .u16 (n1 : Nat), .int .u8 (n2 : Nat), .int .u8 (n3 : Nat), .string (bs n4), .int .u16 (n5 : Nat)] 157)) := (Frm.refl _ w).alloc _
  go_enter Tryz.func128, Tryz.ntmps128
  go_wp2_with fail
  go_ret
  exact ⟨rfl, gA⟩
set_option maxRecDepth 100000 in
set_option maxHeartbeats 2000000 in
theorem rg_finished (i : Nat) (s : List UInt8) : RuleE 129 (entV i s) (decide (fAgain s = i)) := by
  intro w
  obtain ⟨n1, hn1⟩ : ∃ n, fNum s = n := ⟨_, rfl⟩
  obtain ⟨n2, hn2⟩ : ∃ n, fEnd s = n := ⟨_, rfl⟩
  obtain ⟨n3, hn3⟩ : ∃ n, fSize s = n := ⟨_, rfl⟩
  obtain ⟨n4, hn4⟩ : ∃ n, fBytes s = n := ⟨_, rfl⟩
  obtain ⟨n5, hn5⟩ : ∃ n, fAgain s = n := ⟨_, rfl⟩
  unfold entV
  simp only [hn1, hn2, hn3, hn4, hn5]
  have hb : ((n5 : Int) == (i : Int)) = decide (n5 = i) := by rw [Bool.eq_iff_iff]; simp; omega
  clear hn1 hn2 hn3 hn4 hn5
  have gA : Frm (fun _ => False) w (w.alloc (.cells #[.int .u16 (i : Nat), .int .u16 (n1 : Nat), .int .u8 (n2 : Nat), .int .u8 (n3 : Nat), .string (bs n4), .int .u16 (n5 : Nat)] 157)) := (Frm.refl _ w).alloc _
  go_enter Tryz.func129, Tryz.ntmps129
  go_wp2_with fail
  go_ret
  exact ⟨rfl, gA⟩
set_option maxRecDepth 100000 in
set_option maxHeartbeats 2000000 in
theorem rg_fits (i : Nat) (s : List UInt8) : RuleE 131 (entV i s) (decide (fSize s ≤ 58)) := by
  intro w
  obtain ⟨n1, hn1⟩ : ∃ n, fNum s = n := ⟨_, rfl⟩
  obtain ⟨n2, hn2⟩ : ∃ n, fEnd s = n := ⟨_, rfl⟩
  obtain ⟨n3, hn3⟩ : ∃ n, fSize s = n := ⟨_, rfl⟩
  obtain ⟨n4, hn4⟩ : ∃ n, fBytes s = n := ⟨_, rfl⟩
  obtain ⟨n5, hn5⟩ : ∃ n, fAgain s = n := ⟨_, rfl⟩
  unfold entV
  simp only [hn1, hn2, hn3, hn4, hn5]
  have hb : decide ((n3 : Int) ≤ 58) = decide (n3 ≤ 58) := by rw [Bool.eq_iff_iff]; simp; omega
  clear hn1 hn2 hn3 hn4 hn5
  have gA : Frm (fun _ => False) w (w.alloc (.cells #[.int .u16 (i : Nat), .int .u16 (n1 : Nat), .int .u8 (n2 : Nat), .int .u8 (n3 : Nat), .string (bs n4), .int .u16 (n5 : Nat)] 157)) := (Frm.refl _ w).alloc _
  go_enter Tryz.func131, Tryz.ntmps131
  go_wp2_with fail
  go_ret
  exact ⟨rfl, gA⟩
set_option maxRecDepth 100000 in
set_option maxHeartbeats 2000000 in
theorem rg_plain (i : Nat) (s : List UInt8) : RuleE 130 (entV i s) (decide (fEnd s ≤ 1)) := by
  intro w
  obtain ⟨n1, hn1⟩ : ∃ n, fNum s = n := ⟨_, rfl⟩
  obtain ⟨n2, hn2⟩ : ∃ n, fEnd s = n := ⟨_, rfl⟩
  obtain ⟨n3, hn3⟩ : ∃ n, fSize s = n := ⟨_, rfl⟩
  obtain ⟨n4, hn4⟩ : ∃ n, fBytes s = n := ⟨_, rfl⟩
  obtain ⟨n5, hn5⟩ : ∃ n, fAgain s = n := ⟨_, rfl⟩
  unfold entV
  simp only [hn1, hn2, hn3, hn4, hn5]
  clear hn1 hn2 hn3 hn4 hn5
  have gA : Frm (fun _ => False) w (w.alloc (.cells #[.int .u16 (i : Nat), .int .u16 (n1 : Nat), .int .u8 (n2 : Nat), .int .u8 (n3 : Nat), .string (bs n4), .int .u16 (n5 : Nat)] 157)) := (Frm.refl _ w).alloc _
  by_cases e0 : n2 = 0
  · subst e0
    rw [decide_eq_true (by omega)]
    go_enter Tryz.func130, Tryz.ntmps130
    go_wp2_with fail
    go_ret
    exact ⟨rfl, gA⟩
  · have h0 : ((n2 : Int) == 0) = false := by rw [beq_eq_false_iff_ne]; omega
    have h1 : ((n2 : Int) == 1) = decide (n2 ≤ 1) := by rw [Bool.eq_iff_iff]; simp; omega
    clear e0
    go_enter Tryz.func130, Tryz.ntmps130
    go_wp2_with fail
    go_ret
    exact ⟨rfl, gA⟩
set_option maxRecDepth 100000 in
set_option maxHeartbeats 2000000 in
theorem rg_piece (i : Nat) (s : List UInt8) (hs : s.length = 64) (w : World) : Calls Tryz.prog 108 #[entV i s] w fun e W' => e = .returned (.string (bs (pieceB s))) ∧ Frm (fun _ => False) w W' := by
  have hl := fBytes_len hs
  have h3 := fSize_lt s
  unfold pieceB
  obtain ⟨n1, hn1⟩ : ∃ n, fNum s = n := ⟨_, rfl⟩
  obtain ⟨n2, hn2⟩ : ∃ n, fEnd s = n := ⟨_, rfl⟩
  obtain ⟨n3, hn3⟩ : ∃ n, fSize s = n := ⟨_, rfl⟩
  obtain ⟨n4, hn4⟩ : ∃ n, fBytes s = n := ⟨_, rfl⟩
  obtain ⟨n5, hn5⟩ : ∃ n, fAgain s = n := ⟨_, rfl⟩
  unfold entV
  simp only [hn1, hn2, hn3, hn4, hn5]
  rw [hn4] at hl
  rw [hn3] at h3
  clear hn1 hn2 hn3 hn4 hn5
  have gA : Frm (fun _ => False) w (w.alloc (.cells #[.int .u16 (i : Nat), .int .u16 (n1 : Nat), .int .u8 (n2 : Nat), .int .u8 (n3 : Nat), .string (bs n4), .int .u16 (n5 : Nat)] 157)) := (Frm.refl _ w).alloc _
  have hsz : (bs n4).size = 58 := hl
  have hm : min (n3 : Int) 58 = ((min n3 58 : Nat) : Int) := by omega
  have hE : bs (n4.take n3) = (bs n4).extract 0 (min n3 58) := by
    rw [bs_take]
    congr 1
    by_cases h : n3 ≤ 58
    · rw [Nat.min_eq_left h]
    · rw [Nat.min_eq_right (by omega), List.take_of_length_le (by omega), List.take_of_length_le (by omega)]
  rw [hE]
  obtain ⟨m, hmm⟩ : ∃ m, min n3 58 = m := ⟨_, rfl⟩
  rw [hmm] at hm ⊢
  have hm58 : m ≤ 58 := by omega
  have hw8 : IntKind.i64.wrap (n3 : Int) = (n3 : Int) := IntWalk.i64_in _ (by omega)
  clear hmm hE hl
  go_enter Tryz.func108, Tryz.ntmps108
  go_wp2_with fail
  go_ret
  exact ⟨rfl, gA⟩
end Go.Proofs.YtdhnidmeeocajaaGreat
end
section
namespace Go.Proofs.YtdhnidmeeocajaaGreat
open Go.RowKit Go.Shelf

set_option maxRecDepth 100000 in
set_option maxHeartbeats 2000000 in
theorem rg_filled (i : Nat) (s : List UInt8) : RuleE 132 (entV i s) (decide (fEnd s = 1 ∨ fSize s = 58)) := by
  intro w
  have HE := Lib.hid (rg_ends i s)
  obtain ⟨n1, hn1⟩ : ∃ n, fNum s = n := ⟨_, rfl⟩
  obtain ⟨n2, hn2⟩ : ∃ n, fEnd s = n := ⟨_, rfl⟩
  obtain ⟨n3, hn3⟩ : ∃ n, fSize s = n := ⟨_, rfl⟩
  obtain ⟨n4, hn4⟩ : ∃ n, fBytes s = n := ⟨_, rfl⟩
  obtain ⟨n5, hn5⟩ : ∃ n, fAgain s = n := ⟨_, rfl⟩
  unfold entV at HE ⊢
  simp only [hn1, hn2, hn3, hn4, hn5] at HE ⊢
  clear hn1 hn2 hn3 hn4 hn5
  have gA : Frm (fun _ => False) w (w.alloc (.cells #[.int .u16 (i : Nat), .int .u16 (n1 : Nat), .int .u8 (n2 : Nat), .int .u8 (n3 : Nat), .string (bs n4), .int .u16 (n5 : Nat)] 157)) := (Frm.refl _ w).alloc _
  have bA : Blk (w.alloc (.cells #[.int .u16 (i : Nat), .int .u16 (n1 : Nat), .int .u8 (n2 : Nat), .int .u8 (n3 : Nat), .string (bs n4), .int .u16 (n5 : Nat)] 157)) w.heap.size 157 #[.int .u16 (i : Nat), .int .u16 (n1 : Nat), .int .u8 (n2 : Nat), .int .u8 (n3 : Nat), .string (bs n4), .int .u16 (n5 : Nat)] := Blk.alloc w _ _
  have HA := Lib.hid (And.intro gA bA)
  clear gA bA
  by_cases e1 : n2 = 1
  · have d1 : decide (n2 = 1) = true := decide_eq_true e1
    rw [d1] at HE
    rw [decide_eq_true (.inl e1)]
    clear e1 d1
    go_enter Tryz.func132, Tryz.ntmps132
    go_wp2_with fail
    refine (HE.out _).mono ?_
    rintro e w1 ⟨rfl, g1⟩
    have G1 := Lib.hid (HA.out.1.trans g1)
    clear g1
    go_wp2_with fail
    go_ret
    exact ⟨rfl, G1.out⟩
  · have d1 : decide (n2 = 1) = false := decide_eq_false e1
    rw [d1] at HE
    have hb : ((n3 : Int) == 58) = decide (n2 = 1 ∨ n3 = 58) := by rw [Bool.eq_iff_iff]; simp; omega
    clear e1 d1
    go_enter Tryz.func132, Tryz.ntmps132
    go_wp2_with fail
    refine (HE.out _).mono ?_
    rintro e w1 ⟨rfl, g1⟩
    have G1 := Lib.hid (HA.out.1.trans g1)
    have c3 := (HA.out.2.keep g1 (fun h => h)).cell 3 rfl
    clear g1
    go_wp2_with fail
    go_ret
    exact ⟨by rw [Bool.decide_or]; rfl, G1.out⟩
set_option maxRecDepth 100000 in
set_option maxHeartbeats 4000000 in
theorem rg_padded (i : Nat) (s : List UInt8) (hs : s.length = 64) : RuleE 133 (entV i s) (decide ((fBytes s).drop (pieceB s).length = nul (58 - (pieceB s).length))) := by
  intro w
  have hl := fBytes_len hs
  have hp : (pieceB s).length ≤ 58 := by unfold pieceB; rw [List.length_take]; omega
  have HP := Lib.hid (fun W => rg_piece i s hs W)
  obtain ⟨n1, hn1⟩ : ∃ n, fNum s = n := ⟨_, rfl⟩
  obtain ⟨n2, hn2⟩ : ∃ n, fEnd s = n := ⟨_, rfl⟩
  obtain ⟨n3, hn3⟩ : ∃ n, fSize s = n := ⟨_, rfl⟩
  obtain ⟨n4, hn4⟩ : ∃ n, fBytes s = n := ⟨_, rfl⟩
  obtain ⟨n5, hn5⟩ : ∃ n, fAgain s = n := ⟨_, rfl⟩
  obtain ⟨p, hp2⟩ : ∃ p, pieceB s = p := ⟨_, rfl⟩
  unfold entV at HP ⊢
  simp only [hn1, hn2, hn3, hn4, hn5, hp2] at HP hl hp ⊢
  clear hn1 hn2 hn3 hn4 hn5 hp2
  obtain ⟨m, hm⟩ : ∃ m, p.length = m := ⟨_, rfl⟩
  have hsz : (bs n4).size = 58 := hl
  have hsp : (bs p).size = m := hm
  have hm2 : (n4.drop m).length = 58 - m := by rw [List.length_drop, hl]
  have hbl := fun W => blank_any (n4.drop m) W (by rw [hm2]; omega)
  rw [hm2] at hbl
  rw [hm] at hp ⊢
  have HB := Lib.hid hbl
  have hpi : (m : Int) ≤ 58 := by omega
  clear hbl
  have hE : (bs n4).extract m 58 = bs (n4.drop m) := by rw [← hsz]; exact bs_drop n4 m
  have gA : Frm (fun _ => False) w (w.alloc (.cells #[.int .u16 (i : Nat), .int .u16 (n1 : Nat), .int .u8 (n2 : Nat), .int .u8 (n3 : Nat), .string (bs n4), .int .u16 (n5 : Nat)] 157)) := (Frm.refl _ w).alloc _
  have bA : Blk (w.alloc (.cells #[.int .u16 (i : Nat), .int .u16 (n1 : Nat), .int .u8 (n2 : Nat), .int .u8 (n3 : Nat), .string (bs n4), .int .u16 (n5 : Nat)] 157)) w.heap.size 157 #[.int .u16 (i : Nat), .int .u16 (n1 : Nat), .int .u8 (n2 : Nat), .int .u8 (n3 : Nat), .string (bs n4), .int .u16 (n5 : Nat)] := Blk.alloc w _ _
  clear hl hm hm2
  go_enter Tryz.func133, Tryz.ntmps133
  go_upto_region 1 with fail
  refine wp_region_canon (fun W => W.cell? ⟨w.heap.size, 0, none⟩ = some (.int .u16 (i : Nat)) ∧ W.cell? ⟨w.heap.size, 1, none⟩ = some (.int .u16 (n1 : Nat)) ∧ W.cell? ⟨w.heap.size, 2, none⟩ = some (.int .u8 (n2 : Nat)) ∧ W.cell? ⟨w.heap.size, 3, none⟩ = some (.int .u8 (n3 : Nat)) ∧ W.cell? ⟨w.heap.size, 4, none⟩ = some (.string (bs n4)) ∧ W.cell? ⟨w.heap.size, 5, none⟩ = some (.int .u16 (n5 : Nat)) ∧ Frm (fun _ => False) w W) (by kernel_rfl) rfl (by kernel_rfl) (by kernel_rfl) (⟨bA.cell 0 rfl, bA.cell 1 rfl, bA.cell 2 rfl, bA.cell 3 rfl, bA.cell 4 rfl, bA.cell 5 rfl, gA.drew⟩) ?_
  repeat' first
    | (refine CanonL.skip (by rfl) ?_; (try simp only [Act.put, List.setIfInBounds_toArray, List.set_cons_zero, List.set_cons_succ]))
    | (refine CanonL.callQ (by rfl) (by rfl) ?_ HP ?_ ?_; (focus (intro w; go_simp; (try (with_reducible rfl)); done)); (focus (rintro w ww hs gg; exact ⟨dFrm_cell gg hs.1, dFrm_cell gg hs.2.1, dFrm_cell gg hs.2.2.1, dFrm_cell gg hs.2.2.2.1, dFrm_cell gg hs.2.2.2.2.1, dFrm_cell gg hs.2.2.2.2.2.1, hs.2.2.2.2.2.2.trans gg⟩)); (try simp only [Act.put, List.setIfInBounds_toArray, List.set_cons_zero, List.set_cons_succ]))
    | (refine CanonL.callQ (by rfl) (by rfl) ?_ HB ?_ ?_; (focus (intro w; go_simp; (try (with_reducible rfl)); done)); (focus (rintro w ww hs gg; exact ⟨dFrm_cell gg hs.1, dFrm_cell gg hs.2.1, dFrm_cell gg hs.2.2.1, dFrm_cell gg hs.2.2.2.1, dFrm_cell gg hs.2.2.2.2.1, dFrm_cell gg hs.2.2.2.2.2.1, hs.2.2.2.2.2.2.trans gg⟩)); (try simp only [Act.put, List.setIfInBounds_toArray, List.set_cons_zero, List.set_cons_succ]))
    | (refine CanonL.val (v := ?_) (by rfl) ?_ ?_; rotate_left 1; (focus (intro w hSw; (try dsimp only at hSw); go_simp; (try (with_reducible rfl)); done)); (try simp only [Act.put, List.setIfInBounds_toArray, List.set_cons_zero, List.set_cons_succ]))
  refine CanonL.done ?_
  intro w9 hS9
  have G9 := Lib.hid hS9.2.2.2.2.2.2
  clear hS9
  go_wp2_with fail
  go_ret
  exact ⟨rfl, G9.out⟩
set_option maxRecDepth 100000 in
set_option maxHeartbeats 4000000 in
theorem all_any (A : Value) (l : List (FuncId × Bool)) (g : Nat) (w : World) (hl : l.length ≤ 100) (hc : ∀ k (h : k < l.length), w.cell? ⟨g, k, none⟩ = some (.func (.func l[k].1) #[A] #[])) (hR : ∀ k (h : k < l.length), RuleE l[k].1 A l[k].2)
    (hE : ∀ k (h : k < l.length) W, (callFunc l[k].1 #[A]).run Tryz.prog W = .ok (.enter l[k].1 #[A]) W) :
    Calls Tryz.prog 102 #[.slice (some ⟨g, 0, none⟩) l.length l.length] w fun e w' => e = .returned (.bool (l.all (·.2))) ∧ Frm (fun _ => False) w w' := by
  have HC := Lib.hid hc
  have HR := Lib.hid hR
  have HE := Lib.hid hE
  clear hc hR hE
  go_enter Tryz.func102, Tryz.ntmps102
  go_wp2_with fail
  go_loopw [7] (fun i wr => ∃ k : Nat, k ≤ l.length ∧ i = .int .i64 k ∧ Frm (fun _ => False) w wr ∧ (l.take k).all (·.2) = true) (fun i _ => l.length - (intOf i).toNat)
  case atStart => exact ⟨0, Nat.zero_le _, rfl, Frm.refl _ _, rfl⟩
  case round =>
    obtain ⟨k, hk, rfl, gr, ha⟩ := hrel
    by_cases hlt : k < l.length
    · have c1 := dFrm_cell gr (HC.out k hlt)
      have h1 := HR.out k hlt wr
      have h2 := HE.out k hlt
      have hn : (l.take (k + 1)).all (·.2) = l[k].2 := by rw [List.take_add_one, List.getElem?_eq_getElem hlt, List.all_append, ha]; simp
      have hfull : l[k].2 = false → l.all (·.2) = false := fun e => by
        rw [List.all_eq_false]
        exact ⟨l[k], List.getElem_mem hlt, by rw [e]; decide⟩
      obtain ⟨F, hF⟩ : ∃ F, l[k].1 = F := ⟨_, rfl⟩
      rw [hF] at c1 h1 h2
      have hki : (k : Int) < (l.length : Int) := by omega
      have HA := Lib.hid hn
      have HF := Lib.hid hfull
      clear hF hn hfull ha
      cases hb : l[k].2 with
      | true =>
        rw [hb] at h1
        have H1 := Lib.hid h1
        have HB := Lib.hid hb
        clear h1 hb
        go_wp2_with fail
        refine H1.out.mono ?_
        rintro e w1 ⟨rfl, g1⟩
        have G1 := Lib.hid (gr.trans g1)
        clear g1
        go_wp2_with fail
        go_roundw
        case rel => exact ⟨k + 1, by omega, by go_num, G1.out, by rw [HA.out, HB.out]⟩
        case measure => simp [intOf]; omega
      | false =>
        rw [hb] at h1
        have H1 := Lib.hid h1
        have HB := Lib.hid hb
        clear h1 hb
        go_wp2_with fail
        refine H1.out.mono ?_
        rintro e w1 ⟨rfl, g1⟩
        have G1 := Lib.hid (gr.trans g1)
        clear g1
        go_wp2_with fail
        go_ret
        exact ⟨by rw [HF.out HB.out]; rfl, G1.out⟩
    · obtain rfl : k = l.length := by omega
      rw [List.take_length] at ha
      have HA := Lib.hid ha
      clear ha
      go_wp2_with fail
      go_ret
      exact ⟨by rw [HA.out]; rfl, gr⟩
end Go.Proofs.YtdhnidmeeocajaaGreat
end
