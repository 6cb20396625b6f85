/- All rules of a log block and of a header; what a header tells. No condition. -/
import Derived.Test.YtddjkbpgaenpgaaGreatRgE
namespace Go.Proofs.YtddjkbpgaenpgaaGreat
open Go.RowKit Go.Shelf

set_option maxRecDepth 100000 in
set_option maxHeartbeats 2000000 in
theorem rg_filled (i : Nat) (s : List UInt8) : RuleE 168 (entV i s) (decide (fEnd s = 1 ∨ fSize s = 58)) := by
  intro w
  have HE := Lib.hid (rg_ends i s)
  obtain ⟨n1, hn1⟩ : ∃ n, fNum s = n := ⟨_, rfl⟩
  obtain ⟨n2, hn2⟩ : ∃ n, fEnd s = n := ⟨_, rfl⟩
  obtain ⟨n3, hn3⟩ : ∃ n, fSize s = n := ⟨_, rfl⟩
  obtain ⟨n4, hn4⟩ : ∃ n, fBytes s = n := ⟨_, rfl⟩
  obtain ⟨n5, hn5⟩ : ∃ n, fAgain s = n := ⟨_, rfl⟩
  unfold entV at HE ⊢
  simp only [hn1, hn2, hn3, hn4, hn5] at HE ⊢
  clear hn1 hn2 hn3 hn4 hn5
  have gA : Frm (fun _ => False) w (w.alloc (.cells #[.int .u16 (i : Nat), .int .u16 (n1 : Nat), .int .u8 (n2 : Nat), .int .u8 (n3 : Nat), .string (bs n4), .int .u16 (n5 : Nat)] 185)) := (Frm.refl _ w).alloc _
  have bA : Blk (w.alloc (.cells #[.int .u16 (i : Nat), .int .u16 (n1 : Nat), .int .u8 (n2 : Nat), .int .u8 (n3 : Nat), .string (bs n4), .int .u16 (n5 : Nat)] 185)) w.heap.size 185 #[.int .u16 (i : Nat), .int .u16 (n1 : Nat), .int .u8 (n2 : Nat), .int .u8 (n3 : Nat), .string (bs n4), .int .u16 (n5 : Nat)] := Blk.alloc w _ _
  have HA := Lib.hid (And.intro gA bA)
  clear gA bA
  by_cases e1 : n2 = 1
  · have d1 : decide (n2 = 1) = true := decide_eq_true e1
    rw [d1] at HE
    rw [decide_eq_true (.inl e1)]
    clear e1 d1
    go_enter Tryz.func168, Tryz.ntmps168
    go_wp2_with fail
    refine (HE.out _).mono ?_
    rintro e w1 ⟨rfl, g1⟩
    have G1 := Lib.hid (HA.out.1.trans g1)
    clear g1
    go_wp2_with fail
    go_ret
    exact ⟨rfl, G1.out⟩
  · have d1 : decide (n2 = 1) = false := decide_eq_false e1
    rw [d1] at HE
    have hb : ((n3 : Int) == 58) = decide (n2 = 1 ∨ n3 = 58) := by rw [Bool.eq_iff_iff]; simp; omega
    clear e1 d1
    go_enter Tryz.func168, Tryz.ntmps168
    go_wp2_with fail
    refine (HE.out _).mono ?_
    rintro e w1 ⟨rfl, g1⟩
    have G1 := Lib.hid (HA.out.1.trans g1)
    have c3 := (HA.out.2.keep g1 (fun h => h)).cell 3 rfl
    clear g1
    go_wp2_with fail
    go_ret
    exact ⟨by rw [Bool.decide_or]; rfl, G1.out⟩
set_option maxRecDepth 100000 in
set_option maxHeartbeats 4000000 in
theorem rg_padded (i : Nat) (s : List UInt8) (hs : s.length = 64) : RuleE 169 (entV i s) (decide ((fBytes s).drop (pieceB s).length = nul (58 - (pieceB s).length))) := by
  intro w
  have hl := fBytes_len hs
  have hp : (pieceB s).length ≤ 58 := by unfold pieceB; rw [List.length_take]; omega
  have HP := Lib.hid (fun W => rg_piece i s hs W)
  obtain ⟨n1, hn1⟩ : ∃ n, fNum s = n := ⟨_, rfl⟩
  obtain ⟨n2, hn2⟩ : ∃ n, fEnd s = n := ⟨_, rfl⟩
  obtain ⟨n3, hn3⟩ : ∃ n, fSize s = n := ⟨_, rfl⟩
  obtain ⟨n4, hn4⟩ : ∃ n, fBytes s = n := ⟨_, rfl⟩
  obtain ⟨n5, hn5⟩ : ∃ n, fAgain s = n := ⟨_, rfl⟩
  obtain ⟨p, hp2⟩ : ∃ p, pieceB s = p := ⟨_, rfl⟩
  unfold entV at HP ⊢
  simp only [hn1, hn2, hn3, hn4, hn5, hp2] at HP hl hp ⊢
  clear hn1 hn2 hn3 hn4 hn5 hp2
  obtain ⟨m, hm⟩ : ∃ m, p.length = m := ⟨_, rfl⟩
  have hsz : (bs n4).size = 58 := hl
  have hsp : (bs p).size = m := hm
  have hm2 : (n4.drop m).length = 58 - m := by rw [List.length_drop, hl]
  have hbl := fun W => blank_any (n4.drop m) W (by rw [hm2]; omega)
  rw [hm2] at hbl
  rw [hm] at hp ⊢
  have HB := Lib.hid hbl
  have hpi : (m : Int) ≤ 58 := by omega
  clear hbl
  have hE : (bs n4).extract m 58 = bs (n4.drop m) := by rw [← hsz]; exact bs_drop n4 m
  have gA : Frm (fun _ => False) w (w.alloc (.cells #[.int .u16 (i : Nat), .int .u16 (n1 : Nat), .int .u8 (n2 : Nat), .int .u8 (n3 : Nat), .string (bs n4), .int .u16 (n5 : Nat)] 185)) := (Frm.refl _ w).alloc _
  have bA : Blk (w.alloc (.cells #[.int .u16 (i : Nat), .int .u16 (n1 : Nat), .int .u8 (n2 : Nat), .int .u8 (n3 : Nat), .string (bs n4), .int .u16 (n5 : Nat)] 185)) w.heap.size 185 #[.int .u16 (i : Nat), .int .u16 (n1 : Nat), .int .u8 (n2 : Nat), .int .u8 (n3 : Nat), .string (bs n4), .int .u16 (n5 : Nat)] := Blk.alloc w _ _
  clear hl hm hm2
  go_enter Tryz.func169, Tryz.ntmps169
  go_upto_region 1 with fail
  refine wp_region_canon (fun W => W.cell? ⟨w.heap.size, 0, none⟩ = some (.int .u16 (i : Nat)) ∧ W.cell? ⟨w.heap.size, 1, none⟩ = some (.int .u16 (n1 : Nat)) ∧ W.cell? ⟨w.heap.size, 2, none⟩ = some (.int .u8 (n2 : Nat)) ∧ W.cell? ⟨w.heap.size, 3, none⟩ = some (.int .u8 (n3 : Nat)) ∧ W.cell? ⟨w.heap.size, 4, none⟩ = some (.string (bs n4)) ∧ W.cell? ⟨w.heap.size, 5, none⟩ = some (.int .u16 (n5 : Nat)) ∧ Frm (fun _ => False) w W) (by kernel_rfl) rfl (by kernel_rfl) (by kernel_rfl) (⟨bA.cell 0 rfl, bA.cell 1 rfl, bA.cell 2 rfl, bA.cell 3 rfl, bA.cell 4 rfl, bA.cell 5 rfl, gA.drew⟩) ?_
  repeat' first
    | (refine CanonL.skip (by rfl) ?_; (try simp only [Act.put, List.setIfInBounds_toArray, List.set_cons_zero, List.set_cons_succ]))
    | (refine CanonL.callQ (by rfl) (by rfl) ?_ HP ?_ ?_; (focus (intro w; go_simp; (try (with_reducible rfl)); done)); (focus (rintro w ww hs gg; exact ⟨dFrm_cell gg hs.1, dFrm_cell gg hs.2.1, dFrm_cell gg hs.2.2.1, dFrm_cell gg hs.2.2.2.1, dFrm_cell gg hs.2.2.2.2.1, dFrm_cell gg hs.2.2.2.2.2.1, hs.2.2.2.2.2.2.trans gg⟩)); (try simp only [Act.put, List.setIfInBounds_toArray, List.set_cons_zero, List.set_cons_succ]))
    | (refine CanonL.callQ (by rfl) (by rfl) ?_ HB ?_ ?_; (focus (intro w; go_simp; (try (with_reducible rfl)); done)); (focus (rintro w ww hs gg; exact ⟨dFrm_cell gg hs.1, dFrm_cell gg hs.2.1, dFrm_cell gg hs.2.2.1, dFrm_cell gg hs.2.2.2.1, dFrm_cell gg hs.2.2.2.2.1, dFrm_cell gg hs.2.2.2.2.2.1, hs.2.2.2.2.2.2.trans gg⟩)); (try simp only [Act.put, List.setIfInBounds_toArray, List.set_cons_zero, List.set_cons_succ]))
    | (refine CanonL.val (v := ?_) (by rfl) ?_ ?_; rotate_left 1; (focus (intro w hSw; (try dsimp only at hSw); go_simp; (try (with_reducible rfl)); done)); (try simp only [Act.put, List.setIfInBounds_toArray, List.set_cons_zero, List.set_cons_succ]))
  refine CanonL.done ?_
  intro w9 hS9
  have G9 := Lib.hid hS9.2.2.2.2.2.2
  clear hS9
  go_wp2_with fail
  go_ret
  exact ⟨rfl, G9.out⟩
set_option maxRecDepth 100000 in
set_option maxHeartbeats 4000000 in
theorem all_any (A : Value) (l : List (FuncId × Bool)) (g : Nat) (w : World) (hl : l.length ≤ 100) (hc : ∀ k (h : k < l.length), w.cell? ⟨g, k, none⟩ = some (.func (.func l[k].1) #[A] #[])) (hR : ∀ k (h : k < l.length), RuleE l[k].1 A l[k].2)
    (hE : ∀ k (h : k < l.length) W, (callFunc l[k].1 #[A]).run Tryz.prog W = .ok (.enter l[k].1 #[A]) W) :
    Calls Tryz.prog 134 #[.slice (some ⟨g, 0, none⟩) l.length l.length] w fun e w' => e = .returned (.bool (l.all (·.2))) ∧ Frm (fun _ => False) w w' := by
  have HC := Lib.hid hc
  have HR := Lib.hid hR
  have HE := Lib.hid hE
  clear hc hR hE
  go_enter Tryz.func134, Tryz.ntmps134
  go_wp2_with fail
  go_loopw [7] (fun i wr => ∃ k : Nat, k ≤ l.length ∧ i = .int .i64 k ∧ Frm (fun _ => False) w wr ∧ (l.take k).all (·.2) = true) (fun i _ => l.length - (intOf i).toNat)
  case atStart => exact ⟨0, Nat.zero_le _, rfl, Frm.refl _ _, rfl⟩
  case round =>
    obtain ⟨k, hk, rfl, gr, ha⟩ := hrel
    by_cases hlt : k < l.length
    · have c1 := dFrm_cell gr (HC.out k hlt)
      have h1 := HR.out k hlt wr
      have h2 := HE.out k hlt
      have hn : (l.take (k + 1)).all (·.2) = l[k].2 := by rw [List.take_add_one, List.getElem?_eq_getElem hlt, List.all_append, ha]; simp
      have hfull : l[k].2 = false → l.all (·.2) = false := fun e => by
        rw [List.all_eq_false]
        exact ⟨l[k], List.getElem_mem hlt, by rw [e]; decide⟩
      obtain ⟨F, hF⟩ : ∃ F, l[k].1 = F := ⟨_, rfl⟩
      rw [hF] at c1 h1 h2
      have hki : (k : Int) < (l.length : Int) := by omega
      have HA := Lib.hid hn
      have HF := Lib.hid hfull
      clear hF hn hfull ha
      cases hb : l[k].2 with
      | true =>
        rw [hb] at h1
        have H1 := Lib.hid h1
        have HB := Lib.hid hb
        clear h1 hb
        go_wp2_with fail
        refine H1.out.mono ?_
        rintro e w1 ⟨rfl, g1⟩
        have G1 := Lib.hid (gr.trans g1)
        clear g1
        go_wp2_with fail
        go_roundw
        case rel => exact ⟨k + 1, by omega, by go_num, G1.out, by rw [HA.out, HB.out]⟩
        case measure => simp [intOf]; omega
      | false =>
        rw [hb] at h1
        have H1 := Lib.hid h1
        have HB := Lib.hid hb
        clear h1 hb
        go_wp2_with fail
        refine H1.out.mono ?_
        rintro e w1 ⟨rfl, g1⟩
        have G1 := Lib.hid (gr.trans g1)
        clear g1
        go_wp2_with fail
        go_ret
        exact ⟨by rw [HF.out HB.out]; rfl, G1.out⟩
    · obtain rfl : k = l.length := by omega
      rw [List.take_length] at ha
      have HA := Lib.hid ha
      clear ha
      go_wp2_with fail
      go_ret
      exact ⟨by rw [HA.out]; rfl, gr⟩
end Go.Proofs.YtddjkbpgaenpgaaGreat

