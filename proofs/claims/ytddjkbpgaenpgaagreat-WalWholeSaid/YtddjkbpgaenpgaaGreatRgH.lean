/- All rules of a log block and of a header; what a header tells. No condition. -/
import Derived.Test.YtddjkbpgaenpgaaGreatRgE
section
namespace Go.Proofs.YtddjkbpgaenpgaaGreat
open Go.RowKit Go.Shelf

set_option maxRecDepth 100000 in
set_option maxHeartbeats 2000000 in
theorem rg_filled (i : Nat) (s : List UInt8) : RuleE 168 (entV i s) (decide (fEnd s = 1 ∨ fSize s = 58)) := by
  intro w
  have HE := Lib.hid (rg_ends i s)
  obtain ⟨n1, hn1⟩ : ∃ n, fNum s = n := ⟨_, rfl⟩
  obtain ⟨n2, hn2⟩ : ∃ n, fEnd s = n := ⟨_, rfl⟩
  obtain ⟨n3, hn3⟩ : ∃ n, fSize s = n := ⟨_, rfl⟩
  obtain ⟨n4, hn4⟩ : ∃ n, fBytes s = n := ⟨_, rfl⟩
  obtain ⟨n5, hn5⟩ : ∃ n, fAgain s = n := ⟨_, rfl⟩
  unfold entV at HE ⊢
  simp only [hn1, hn2, hn3, hn4, hn5] at HE ⊢
  clear hn1 hn2 hn3 hn4 hn5
  have gA : Frm (fun _ => False) w (w.alloc (.cells #[.int .u16 (i : Nat), .int .u16 (n1 : Nat), .int .u8 (n2 : Nat), .int .u8 (n3 : Nat), .string (bs n4), .int .u16 (n5 : Nat)] 185)) := (Frm.refl _ w).alloc _
  have bA : Blk (w.alloc (.cells #[.int .u16 (i : Nat), .int .u16 (n1 : Nat), .int .u8 (n2 : Nat), .int .u8 (n3 : Nat), .string (bs n4), .int .u16 (n5 : Nat)] 185)) w.heap.size 185 #[.int .u16 (i : Nat), .int .u16 (n1 : Nat), .int .u8 (n2 : Nat), .int .u8 (n3 : Nat), .string (bs n4), .int .u16 (n5 : Nat)] := Blk.alloc w _ _
  have HA := Lib.hid (And.intro gA bA)
  clear gA bA
  by_cases e1 : n2 = 1
  · have d1 : decide (n2 = 1) = true := decide_eq_true e1
    rw [d1] at HE
    rw [decide_eq_true (.inl e1)]
    clear e1 d1
    go_enter Tryz.func168, Tryz.ntmps168
    go_wp2_with fail
    refine (HE.out _).mono ?_
    rintro e w1 ⟨rfl, g1⟩
    have G1 := Lib.hid (HA.out.1.trans g1)
    clear g1
    go_wp2_with fail
    go_ret
    exact ⟨rfl, G1.out⟩
  · have d1 : decide (n2 = 1) = false := decide_eq_false e1
    rw [d1] at HE
    have hb : ((n3 : Int) == 58) = decide (n2 = 1 ∨ n3 = 58) := by rw [Bool.eq_iff_iff]; simp; omega
    clear e1 d1
    go_enter Tryz.func168, Tryz.ntmps168
    go_wp2_with fail
    refine (HE.out _).mono ?_
    rintro e w1 ⟨rfl, g1⟩
    have G1 := Lib.hid (HA.out.1.trans g1)
    have c3 := (HA.out.2.keep g1 (fun h => h)).cell 3 rfl
    clear g1
    go_wp2_with fail
    go_ret
    exact ⟨by rw [Bool.decide_or]; rfl, G1.out⟩
set_option maxRecDepth 100000 in
set_option maxHeartbeats 4000000 in
theorem rg_padded (i : Nat) (s : List UInt8) (hs : s.length = 64) : RuleE 169 (entV i s) (decide ((fBytes s).drop (pieceB s).length = nul (58 - (pieceB s).length))) := by
  intro w
  have hl := fBytes_len hs
  have hp : (pieceB s).length ≤ 58 := by unfold pieceB; rw [List.length_take]; omega
  have HP := Lib.hid (fun W => rg_piece i s hs W)
  obtain ⟨n1, hn1⟩ : ∃ n, fNum s = n := ⟨_, rfl⟩
  obtain ⟨n2, hn2⟩ : ∃ n, fEnd s = n := ⟨_, rfl⟩
  obtain ⟨n3, hn3⟩ : ∃ n, fSize s = n := ⟨_, rfl⟩
  obtain ⟨n4, hn4⟩ : ∃ n, fBytes s = n := ⟨_, rfl⟩
  obtain ⟨n5, hn5⟩ : ∃ n, fAgain s = n := ⟨_, rfl⟩
  obtain ⟨p, hp2⟩ : ∃ p, pieceB s = p := ⟨_, rfl⟩
  unfold entV at HP ⊢
  simp only [hn1, hn2, hn3, hn4, hn5, hp2] at HP hl hp ⊢
  clear hn1 hn2 hn3 hn4 hn5 hp2
  obtain ⟨m, hm⟩ : ∃ m, p.length = m := ⟨_, rfl⟩
  have hsz : (bs n4).size = 58 := hl
  have hsp : (bs p).size = m := hm
  have hm2 : (n4.drop m).length = 58 - m := by rw [List.length_drop, hl]
  have hbl := fun W => blank_any (n4.drop m) W (by rw [hm2]; omega)
  rw [hm2] at hbl
  rw [hm] at hp ⊢
  have HB := Lib.hid hbl
  have hpi : (m : Int) ≤ 58 := by omega
  clear hbl
  have hE : (bs n4).extract m 58 = bs (n4.drop m) := by rw [← hsz]; exact bs_drop n4 m
  have gA : Frm (fun _ => False) w (w.alloc (.cells #[.int .u16 (i : Nat), .int .u16 (n1 : Nat), .int .u8 (n2 : Nat), .int .u8 (n3 : Nat), .string (bs n4), .int .u16 (n5 : Nat)] 185)) := (Frm.refl _ w).alloc _
  have bA : Blk (w.alloc (.cells #[.int .u16 (i : Nat), .int .u16 (n1 : Nat), .int .u8 (n2 : Nat), .int .u8 (n3 : Nat), .string (bs n4), .int .u16 (n5 : Nat)] 185)) w.heap.size 185 #[.int .u16 (i : Nat), .int .u16 (n1 : Nat), .int .u8 (n2 : Nat), .int .u8 (n3 : Nat), .string (bs n4), .int .u16 (n5 : Nat)] := Blk.alloc w _ _
  clear hl hm hm2
  go_enter Tryz.func169, Tryz.ntmps169
  go_upto_region 1 with fail
  refine wp_region_canon (fun W => W.cell? ⟨w.heap.size, 0, none⟩ = some (.int .u16 (i : Nat)) ∧ W.cell? ⟨w.heap.size, 1, none⟩ = some (.int .u16 (n1 : Nat)) ∧ W.cell? ⟨w.heap.size, 2, none⟩ = some (.int .u8 (n2 : Nat)) ∧ W.cell? ⟨w.heap.size, 3, none⟩ = some (.int .u8 (n3 : Nat)) ∧ W.cell? ⟨w.heap.size, 4, none⟩ = some (.string (bs n4)) ∧ W.cell? ⟨w.heap.size, 5, none⟩ = some (.int .u16 (n5 : Nat)) ∧ Frm (fun _ => False) w W) (by kernel_rfl) rfl (by kernel_rfl) (by kernel_rfl) (⟨bA.cell 0 rfl, bA.cell 1 rfl, bA.cell 2 rfl, bA.cell 3 rfl, bA.cell 4 rfl, bA.cell 5 rfl, gA.drew⟩) ?_
  repeat' first
    | (refine CanonL.skip (by rfl) ?_; (try simp only [Act.put, List.setIfInBounds_toArray, List.set_cons_zero, List.set_cons_succ]))
    | (refine CanonL.callQ (by rfl) (by rfl) ?_ HP ?_ ?_; (focus (intro w; go_simp; (try (with_reducible rfl)); done)); (focus (rintro w ww hs gg; exact ⟨dFrm_cell gg hs.1, dFrm_cell gg hs.2.1, dFrm_cell gg hs.2.2.1, dFrm_cell gg hs.2.2.2.1, dFrm_cell gg hs.2.2.2.2.1, dFrm_cell gg hs.2.2.2.2.2.1, hs.2.2.2.2.2.2.trans gg⟩)); (try simp only [Act.put, List.setIfInBounds_toArray, List.set_cons_zero, List.set_cons_succ]))
    | (refine CanonL.callQ (by rfl) (by rfl) ?_ HB ?_ ?_; (focus (intro w; go_simp; (try (with_reducible rfl)); done)); (focus (rintro w ww hs gg; exact ⟨dFrm_cell gg hs.1, dFrm_cell gg hs.2.1, dFrm_cell gg hs.2.2.1, dFrm_cell gg hs.2.2.2.1, dFrm_cell gg hs.2.2.2.2.1, dFrm_cell gg hs.2.2.2.2.2.1, hs.2.2.2.2.2.2.trans gg⟩)); (try simp only [Act.put, List.setIfInBounds_toArray, List.set_cons_zero, List.set_cons_succ]))
    | (refine CanonL.val (v := ?_) (by rfl) ?_ ?_; rotate_left 1; (focus (intro w hSw; (try dsimp only at hSw); go_simp; (try (with_reducible rfl)); done)); (try simp only [Act.put, List.setIfInBounds_toArray, List.set_cons_zero, List.set_cons_succ]))
  refine CanonL.done ?_
  intro w9 hS9
  have G9 := Lib.hid hS9.2.2.2.2.2.2
  clear hS9
  go_wp2_with fail
  go_ret
  exact ⟨rfl, G9.out⟩
set_option maxRecDepth 100000 in
set_option maxHeartbeats 4000000 in
theorem all_any (A : Value) (l : List (FuncId × Bool)) (g : Nat) (w : World) (hl : l.length ≤ 100) (hc : ∀ k (h : k < l.length), w.cell? ⟨g, k, none⟩ = some (.func (.func l[k].1) #[A] #[])) (hR : ∀ k (h : k < l.length), RuleE l[k].1 A l[k].2)
    (hE : ∀ k (h : k < l.length) W, (callFunc l[k].1 #[A]).run Tryz.prog W = .ok (.enter l[k].1 #[A]) W) :
    Calls Tryz.prog 134 #[.slice (some ⟨g, 0, none⟩) l.length l.length] w fun e w' => e = .returned (.bool (l.all (·.2))) ∧ Frm (fun _ => False) w w' := by
  have HC := Lib.hid hc
  have HR := Lib.hid hR
  have HE := Lib.hid hE
  clear hc hR hE
  go_enter Tryz.func134, Tryz.ntmps134
  go_wp2_with fail
  go_loopw [7] (fun i wr => ∃ k : Nat, k ≤ l.length ∧ i = .int .i64 k ∧ Frm (fun _ => False) w wr ∧ (l.take k).all (·.2) = true) (fun i _ => l.length - (intOf i).toNat)
  case atStart => exact ⟨0, Nat.zero_le _, rfl, Frm.refl _ _, rfl⟩
  case round =>
    obtain ⟨k, hk, rfl, gr, ha⟩ := hrel
    by_cases hlt : k < l.length
    · have c1 := dFrm_cell gr (HC.out k hlt)
      have h1 := HR.out k hlt wr
      have h2 := HE.out k hlt
      have hn : (l.take (k + 1)).all (·.2) = l[k].2 := by rw [List.take_add_one, List.getElem?_eq_getElem hlt, List.all_append, ha]; simp
      have hfull : l[k].2 = false → l.all (·.2) = false := fun e => by
        rw [List.all_eq_false]
        exact ⟨l[k], List.getElem_mem hlt, by rw [e]; decide⟩
      obtain ⟨F, hF⟩ : ∃ F, l[k].1 = F := ⟨_, rfl⟩
      rw [hF] at c1 h1 h2
      have hki : (k : Int) < (l.length : Int) := by omega
      have HA := Lib.hid hn
      have HF := Lib.hid hfull
      clear hF hn hfull ha
      cases hb : l[k].2 with
      | true =>
        rw [hb] at h1
        have H1 := Lib.hid h1
        have HB := Lib.hid hb
        clear h1 hb
        go_wp2_with fail
        refine H1.out.mono ?_
        rintro e w1 ⟨rfl, g1⟩
        have G1 := Lib.hid (gr.trans g1)
        clear g1
        go_wp2_with fail
        go_roundw
        case rel => exact ⟨k + 1, by omega, by go_num, G1.out, by rw [HA.out, HB.out]⟩
        case measure => simp [intOf]; omega
      | false =>
        rw [hb] at h1
        have H1 := Lib.hid h1
        have HB := Lib.hid hb
        clear h1 hb
        go_wp2_with fail
        refine H1.out.mono ?_
        rintro e w1 ⟨rfl, g1⟩
        have G1 := Lib.hid (gr.trans g1)
        clear g1
        go_wp2_with fail
        go_ret
        exact ⟨by rw [HF.out HB.out]; rfl, G1.out⟩
    · obtain rfl : k = l.length := by omega
      rw [List.take_length] at ha
      have HA := Lib.hid ha
      clear ha
      go_wp2_with fail
      go_ret
      exact ⟨by rw [HA.out]; rfl, gr⟩
end Go.Proofs.YtddjkbpgaenpgaaGreat
end
section
namespace Go.Proofs.YtddjkbpgaenpgaaGreat
open Go.RowKit Go.Shelf

theorem okB_all (i : Nat) (s : List UInt8) (hs : s.length = 64) : ([(0, decide (fNum s = i)), (0, decide (fAgain s = i)), (0, decide (fEnd s ≤ 1)), (0, decide (fSize s ≤ 58)), (0, decide (fEnd s = 1 ∨ fSize s = 58)), (0, decide ((fBytes s).drop (pieceB s).length = nul (58 - (pieceB s).length)))] : List (Nat × Bool)).all (·.2) = decide (okB i s) := by
  rw [Bool.eq_iff_iff]
  simp only [List.all_cons, List.all_nil, Bool.and_true, Bool.and_eq_true, decide_eq_true_eq]
  have hp : (pieceB s).length = min (fSize s) 58 := by unfold pieceB; rw [List.length_take, fBytes_len hs]
  rw [hp]
  unfold okB
  constructor
  · rintro ⟨h1, h2, h3, h4, h5, h6⟩
    rw [Nat.min_eq_left h4] at h6
    exact ⟨h1, h2, h3, h4, h5, h6⟩
  · rintro ⟨h1, h2, h3, h4, h5, h6⟩
    rw [Nat.min_eq_left h4]
    exact ⟨h1, h2, h3, h4, h5, h6⟩
set_option maxRecDepth 100000 in
set_option maxHeartbeats 4000000 in
theorem complete_any (i : Nat) (s : List UInt8) (hs : s.length = 64) (w : World) : Calls Tryz.prog 139 #[entV i s] w fun e w' => e = .returned (.bool (decide (okB i s))) ∧ Frm (fun _ => False) w w' := by
  have hA := okB_all i s hs
  have R0 := rg_begun i s
  have R1 := rg_finished i s
  have R2 := rg_plain i s
  have R3 := rg_fits i s
  have R4 := rg_filled i s
  have R5 := rg_padded i s hs
  simp only [List.all_cons, List.all_nil, Bool.and_true] at hA
  obtain ⟨b0, h0⟩ : ∃ b, decide (fNum s = i) = b := ⟨_, rfl⟩
  obtain ⟨b1, h1⟩ : ∃ b, decide (fAgain s = i) = b := ⟨_, rfl⟩
  obtain ⟨b2, h2⟩ : ∃ b, decide (fEnd s ≤ 1) = b := ⟨_, rfl⟩
  obtain ⟨b3, h3⟩ : ∃ b, decide (fSize s ≤ 58) = b := ⟨_, rfl⟩
  obtain ⟨b4, h4⟩ : ∃ b, decide (fEnd s = 1 ∨ fSize s = 58) = b := ⟨_, rfl⟩
  obtain ⟨b5, h5⟩ : ∃ b, decide ((fBytes s).drop (pieceB s).length = nul (58 - (pieceB s).length)) = b := ⟨_, rfl⟩
  rw [h0, h1, h2, h3, h4, h5] at hA
  rw [h0] at R0
  rw [h1] at R1
  rw [h2] at R2
  rw [h3] at R3
  rw [h4] at R4
  rw [h5] at R5
  clear h0 h1 h2 h3 h4 h5
  rw [← hA]
  have HA := Lib.hid (fun (g : Nat) (W : World) (hb : ∃ t, Blk W g t #[.func (.func 164) #[entV i s] #[], .func (.func 165) #[entV i s] #[], .func (.func 166) #[entV i s] #[], .func (.func 167) #[entV i s] #[], .func (.func 168) #[entV i s] #[], .func (.func 169) #[entV i s] #[]]) =>
    all_any (entV i s) [(164, b0), (165, b1), (166, b2), (167, b3), (168, b4), (169, b5)] g W (by show 6 ≤ 100; decide)
      (fun k hk => by
        obtain ⟨t, hb⟩ := hb
        match k, hk with
        | 0, _ => exact hb.cell 0 rfl
        | 1, _ => exact hb.cell 1 rfl
        | 2, _ => exact hb.cell 2 rfl
        | 3, _ => exact hb.cell 3 rfl
        | 4, _ => exact hb.cell 4 rfl
        | 5, _ => exact hb.cell 5 rfl)
      (fun k hk => by
        match k, hk with
        | 0, _ => exact R0
        | 1, _ => exact R1
        | 2, _ => exact R2
        | 3, _ => exact R3
        | 4, _ => exact R4
        | 5, _ => exact R5)
      (fun k hk => by
        match k, hk with
        | 0, _ => intro W; show (callFunc 164 _).run _ _ = .ok (.enter 164 _) _; go_simp
        | 1, _ => intro W; show (callFunc 165 _).run _ _ = .ok (.enter 165 _) _; go_simp
        | 2, _ => intro W; show (callFunc 166 _).run _ _ = .ok (.enter 166 _) _; go_simp
        | 3, _ => intro W; show (callFunc 167 _).run _ _ = .ok (.enter 167 _) _; go_simp
        | 4, _ => intro W; show (callFunc 168 _).run _ _ = .ok (.enter 168 _) _; go_simp
        | 5, _ => intro W; show (callFunc 169 _).run _ _ = .ok (.enter 169 _) _; go_simp))
  clear R0 R1 R2 R3 R4 R5 hA
  simp only [List.length_cons, List.length_nil, List.all_cons, List.all_nil, Bool.and_true] at HA
  obtain ⟨ans, hans⟩ : ∃ ans, (b0 && (b1 && (b2 && (b3 && (b4 && b5))))) = ans := ⟨_, rfl⟩
  rw [hans] at HA ⊢
  clear hans
  obtain ⟨n1, hn1⟩ : ∃ n, fNum s = n := ⟨_, rfl⟩
  obtain ⟨n2, hn2⟩ : ∃ n, fEnd s = n := ⟨_, rfl⟩
  obtain ⟨n3, hn3⟩ : ∃ n, fSize s = n := ⟨_, rfl⟩
  obtain ⟨n4, hn4⟩ : ∃ n, fBytes s = n := ⟨_, rfl⟩
  obtain ⟨n5, hn5⟩ : ∃ n, fAgain s = n := ⟨_, rfl⟩
  unfold entV at HA ⊢
  simp only [hn1, hn2, hn3, hn4, hn5] at HA ⊢
  clear hn1 hn2 hn3 hn4 hn5
  have gA : Frm (fun _ => False) w (w.alloc (.cells #[.int .u16 (i : Nat), .int .u16 (n1 : Nat), .int .u8 (n2 : Nat), .int .u8 (n3 : Nat), .string (bs n4), .int .u16 (n5 : Nat)] 185)) := (Frm.refl _ w).alloc _
  have bA : Blk (w.alloc (.cells #[.int .u16 (i : Nat), .int .u16 (n1 : Nat), .int .u8 (n2 : Nat), .int .u8 (n3 : Nat), .string (bs n4), .int .u16 (n5 : Nat)] 185)) w.heap.size 185 #[.int .u16 (i : Nat), .int .u16 (n1 : Nat), .int .u8 (n2 : Nat), .int .u8 (n3 : Nat), .string (bs n4), .int .u16 (n5 : Nat)] := Blk.alloc w _ _
  obtain ⟨w1, hw1⟩ : ∃ w1, w.alloc (.cells #[.int .u16 (i : Nat), .int .u16 (n1 : Nat), .int .u8 (n2 : Nat), .int .u8 (n3 : Nat), .string (bs n4), .int .u16 (n5 : Nat)] 185) = w1 := ⟨_, rfl⟩
  rw [hw1] at gA bA
  have c0 := bA.cell 0 rfl
  have c1 := bA.cell 1 rfl
  have c2 := bA.cell 2 rfl
  have c3 := bA.cell 3 rfl
  have c4 := bA.cell 4 rfl
  have c5 := bA.cell 5 rfl
  clear bA
  have G1 := Lib.hid gA
  clear gA
  go_enter Tryz.func139, Tryz.ntmps139
  go_wp2_with fail
  refine (HA.out _ _ ⟨_, Blk.alloc _ _ _⟩).mono ?_
  rintro e w2 ⟨rfl, g2⟩
  have G2 := Lib.hid ((G1.out.alloc _).trans g2)
  clear g2
  go_wp2_with fail
  go_ret
  exact ⟨rfl, G2.out⟩
end Go.Proofs.YtddjkbpgaenpgaaGreat
end
section
namespace Go.Proofs.YtddjkbpgaenpgaaGreat
open Go.RowKit Go.Shelf

def headV (g : Nat) (m : List UInt8) (a : Nat) : Value := .agg #[.int .u32 (g : Nat), .string (bs m), .int .u32 (a : Nat)]
set_option maxRecDepth 100000 in
set_option maxHeartbeats 2000000 in
theorem rg_given (g a : Nat) (m : List UInt8) : RuleE 135 (headV g m a) (decide (0 < g)) := by
  intro w
  unfold headV
  have hb : decide (0 < (g : Int)) = decide (0 < g) := by rw [Bool.eq_iff_iff]; simp
  have gA : Frm (fun _ => False) w (w.alloc (.cells #[.int .u32 (g : Nat), .string (bs m), .int .u32 (a : Nat)] 182)) := (Frm.refl _ w).alloc _
  go_enter Tryz.func135, Tryz.ntmps135
  go_wp2_with fail
  go_ret
  exact ⟨rfl, gA⟩
set_option maxRecDepth 100000 in
set_option maxHeartbeats 2000000 in
theorem rg_twice (g a : Nat) (m : List UInt8) : RuleE 137 (headV g m a) (decide (a = g)) := by
  intro w
  unfold headV
  have hb : ((a : Int) == (g : Int)) = decide (a = g) := by rw [Bool.eq_iff_iff]; simp; omega
  have gA : Frm (fun _ => False) w (w.alloc (.cells #[.int .u32 (g : Nat), .string (bs m), .int .u32 (a : Nat)] 182)) := (Frm.refl _ w).alloc _
  go_enter Tryz.func137, Tryz.ntmps137
  go_wp2_with fail
  go_ret
  exact ⟨rfl, gA⟩
set_option maxRecDepth 100000 in
set_option maxHeartbeats 2000000 in
theorem rg_empty (g a : Nat) (m : List UInt8) (hm : m.length = 56) : RuleE 136 (headV g m a) (decide (m = nul 56)) := by
  intro w
  unfold headV
  have gA : Frm (fun _ => False) w (w.alloc (.cells #[.int .u32 (g : Nat), .string (bs m), .int .u32 (a : Nat)] 182)) := (Frm.refl _ w).alloc _
  have hB := fun W => blank_any m W (by omega)
  rw [hm] at hB
  have HB := Lib.hid hB
  clear hB hm
  go_enter Tryz.func136, Tryz.ntmps136
  go_wp2_with fail
  refine (HB.out _).mono ?_
  rintro e w1 ⟨rfl, g1⟩
  have G1 := Lib.hid (gA.trans g1)
  clear g1
  go_wp2_with fail
  go_ret
  exact ⟨rfl, G1.out⟩
/-- All rules of a header. -/
theorem rgall_any (g a : Nat) (m : List UInt8) (hm : m.length = 56) (p : Nat) (W : World) (hb : ∃ t, Blk W p t #[.func (.func 135) #[headV g m a] #[], .func (.func 136) #[headV g m a] #[], .func (.func 137) #[headV g m a] #[]]) :
    Calls Tryz.prog 134 #[.slice (some ⟨p, 0, none⟩) 3 3] W fun e w' => e = .returned (.bool (decide (0 < g ∧ m = nul 56 ∧ a = g))) ∧ Frm (fun _ => False) W w' := by
  have R0 := rg_given g a m
  have R1 := rg_empty g a m hm
  have R2 := rg_twice g a m
  have h := all_any (headV g m a) [(135, decide (0 < g)), (136, decide (m = nul 56)), (137, decide (a = g))] p W (by show 3 ≤ 100; decide)
      (fun k hk => by
        obtain ⟨t, hb⟩ := hb
        match k, hk with
        | 0, _ => exact hb.cell 0 rfl
        | 1, _ => exact hb.cell 1 rfl
        | 2, _ => exact hb.cell 2 rfl)
      (fun k hk => by
        match k, hk with
        | 0, _ => exact R0
        | 1, _ => exact R1
        | 2, _ => exact R2)
      (fun k hk => by
        match k, hk with
        | 0, _ => intro W; show (callFunc 135 _).run _ _ = .ok (.enter 135 _) _; go_simp
        | 1, _ => intro W; show (callFunc 136 _).run _ _ = .ok (.enter 136 _) _; go_simp
        | 2, _ => intro W; show (callFunc 137 _).run _ _ = .ok (.enter 137 _) _; go_simp)
  refine h.mono fun e w' ⟨h1, h2⟩ => ⟨?_, h2⟩
  rw [h1]
  congr 2
  simp only [List.all_cons, List.all_nil, Bool.and_true, Bool.decide_and]
set_option maxRecDepth 100000 in
set_option maxHeartbeats 4000000 in
theorem generation_any (s : List UInt8) (w : World) (hs : s.length = 64) : Calls Tryz.prog 85 #[.string (bs s)] w fun e w' => e = .returned (.int .u32 (genOf s : Nat)) ∧ Frm (fun _ => False) w w' := by
  have HR := Lib.hid (cread_any s w (by omega))
  obtain ⟨g0, hg0⟩ : ∃ n, beN (s.take 4) = n := ⟨_, rfl⟩
  obtain ⟨m0, hm0⟩ : ∃ n, (s.drop 4).take 56 = n := ⟨_, rfl⟩
  obtain ⟨a0, ha0⟩ : ∃ n, beN ((s.drop 60).take 4) = n := ⟨_, rfl⟩
  have hlt : g0 < 4294967296 := by rw [← hg0]; exact beN_lt 4 _ (by rw [List.length_take]; omega)
  have hml : m0.length = 56 := by rw [← hm0, List.length_take, List.length_drop]; omega
  have hans : genOf s = if 0 < g0 ∧ m0 = nul 56 ∧ a0 = g0 then g0 else 0 := by unfold genOf; rw [hg0, hm0, ha0]
  rw [hans]
  have HG := Lib.hid (And.intro hg0 (And.intro hm0 ha0))
  clear hg0 hm0 ha0 hans
  have HA := rgall_any g0 a0 m0 hml
  obtain ⟨B, hB⟩ : ∃ B, w.heap.size = B := ⟨_, rfl⟩
  rw [hB] at HR
  have HBB := Lib.hid hB
  clear hB
  go_enter Tryz.func85, Tryz.ntmps85
  go_wp2_with fail
  refine HR.out.mono ?_
  rintro e w2 ⟨rfl, r2, g2⟩
  have K1 := ru32_any B s 0 w2 r2
  rw [numS_ok (show 4 ≤ s.length by omega), HG.out.1] at K1
  have K1 := Lib.hid K1
  have G2 := Lib.hid g2
  clear r2 g2 HR
  go_wp2_with fail
  refine K1.out.mono ?_
  rintro e w3 ⟨rfl, r3, g3⟩
  have G3 := Lib.hid (G2.out.next g3 (fun k hk e => by have := HBB.out; omega))
  have K2 := fixed_pos B _ _ 56 w3 r3 (by decide)
  rw [nextS_ok (show 56 ≤ (s.drop 4).length by rw [List.length_drop]; omega), List.drop_drop, HG.out.2.1] at K2
  have K2 := Lib.hid K2
  clear r3 g3 K1
  go_wp2_with fail
  refine K2.out.mono ?_
  rintro e w4 ⟨rfl, r4, g4⟩
  have G4 := Lib.hid (G3.out.next g4 (fun k hk e => by have := HBB.out; omega))
  have K3 := ru32_any B _ _ w4 r4
  rw [numS_ok (show 4 ≤ (s.drop (4 + 56)).length by rw [List.length_drop]; omega), HG.out.2.2] at K3
  have K3 := Lib.hid K3
  clear r4 g4 K2
  go_wp2_with fail
  refine K3.out.mono ?_
  rintro e w5 ⟨rfl, r5, g5⟩
  have G5 := Lib.hid (G4.out.next g5 (fun k hk e => by have := HBB.out; omega))
  have hBw : B ≤ w5.heap.size := by have := G5.out.size; have := HBB.out; omega
  clear r5 g5 K3
  go_wp2_with fail
  obtain ⟨W1, hW1⟩ : ∃ W1, w5.alloc (.cells #[.int .u32 (g0 : Nat), .string (bs m0), .int .u32 (a0 : Nat)] 182) = W1 := ⟨_, rfl⟩
  have hz1 : W1.heap.size = w5.heap.size + 1 := by rw [← hW1]; simp
  have bW : Blk W1 w5.heap.size 182 #[.int .u32 (g0 : Nat), .string (bs m0), .int .u32 (a0 : Nat)] := by rw [← hW1]; exact Blk.alloc w5 _ _
  have gW : Frm (fun _ => False) w W1 := by rw [← hW1]; exact G5.out.alloc _
  rw [hW1, ← hz1]
  have HC := Lib.hid (HA W1.heap.size (W1.alloc (.cells #[.func (.func 135) #[headV g0 m0 a0] #[], .func (.func 136) #[headV g0 m0 a0] #[], .func (.func 137) #[headV g0 m0 a0] #[]] 27)) ⟨_, Blk.alloc _ _ _⟩)
  have HW := Lib.hid (And.intro bW gW)
  clear HA hW1 hz1 bW gW
  unfold headV at HC
  refine HC.out.mono ?_
  rintro e w6 ⟨rfl, g6⟩
  have gA : Frm (fun _ => False) W1 w6 := ((Frm.refl _ W1).alloc _).trans g6
  have c0 := (HW.out.1.keep gA (fun h => h)).cell 0 rfl
  have G6 := Lib.hid (HW.out.2.trans gA)
  clear g6 gA HC
  by_cases hall : 0 < g0 ∧ m0 = nul 56 ∧ a0 = g0
  · rw [decide_eq_true hall]
    have HL := Lib.hid hall
    clear hall
    go_wp2_with fail
    go_ret
    exact ⟨rfl, G6.out⟩
  · rw [decide_eq_false hall]
    have HL := Lib.hid hall
    clear hall
    go_wp2_with fail
    go_ret
    exact ⟨rfl, G6.out⟩
end Go.Proofs.YtddjkbpgaenpgaaGreat
end
