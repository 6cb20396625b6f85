/- What whole answers. No condition. -/
import Derived.Test.YtddjkbpgaenpgaaGreatRgK
namespace Go.Proofs.YtddjkbpgaenpgaaGreat
open Go.RowKit Go.Shelf

/-- All that is asked of a parsed block, with its parts named. -/
structure Parsed (i : Nat) (s : List UInt8) (n1 n2 n3 : Nat) (n4 : List UInt8) (n5 : Nat) : Prop where
  parse : ∀ W, Calls Tryz.prog 138 #[.string (bs s), .int .i64 (i : Nat)] W fun e w' => e = .returned (.agg #[.int .u16 (i : Nat), .int .u16 (n1 : Nat), .int .u8 (n2 : Nat), .int .u8 (n3 : Nat), .string (bs n4), .int .u16 (n5 : Nat)]) ∧ Frm (fun _ => False) W w'
  complete : ∀ W, Calls Tryz.prog 139 #[.agg #[.int .u16 (i : Nat), .int .u16 (n1 : Nat), .int .u8 (n2 : Nat), .int .u8 (n3 : Nat), .string (bs n4), .int .u16 (n5 : Nat)]] W fun e w' => e = .returned (.bool (decide (okB i s))) ∧ Frm (fun _ => False) W w'
  piece : ∀ W, Calls Tryz.prog 140 #[.agg #[.int .u16 (i : Nat), .int .u16 (n1 : Nat), .int .u8 (n2 : Nat), .int .u8 (n3 : Nat), .string (bs n4), .int .u16 (n5 : Nat)]] W fun e w' => e = .returned (.string (bs (pieceB s))) ∧ Frm (fun _ => False) W w'
  ends : ∀ W, Calls Tryz.prog 141 #[.agg #[.int .u16 (i : Nat), .int .u16 (n1 : Nat), .int .u8 (n2 : Nat), .int .u8 (n3 : Nat), .string (bs n4), .int .u16 (n5 : Nat)]] W fun e w' => e = .returned (.bool (decide (fEnd s = 1))) ∧ Frm (fun _ => False) W w'
theorem parsed (i : Nat) (s : List UInt8) (hs : s.length = 64) (hi : i < 65536) : ∃ n1 n2 n3 n4 n5, Parsed i s n1 n2 n3 n4 n5 :=
  ⟨_, _, _, _, _, ⟨fun W => parse_any s i W hs hi, fun W => complete_any i s hs W, fun W => rg_piece i s hs W, rg_ends i s⟩⟩
set_option maxRecDepth 100000 in
set_option maxHeartbeats 8000000 in
theorem whole_any (v : Value) (l : List (List UInt8)) (w : World) (h : Strs w v l) (h64 : ∀ s ∈ l, s.length = 64) (hn : l.length ≤ 65535) :
    Calls Tryz.prog 86 #[v] w fun e w' => ∃ v', e = .returned v' ∧ NewL w w' v' (scan 1 [] l) := by
  obtain ⟨a, cap, rfl, hc1, hc2⟩ := h.slice
  unfold maxLen at hc2
  have HS := Lib.hid (And.intro h h64)
  clear h h64
  have b0 : Blk (w.alloc (.cells #[.pointer none, .slice none 0 0] 121)) w.heap.size 121 #[.pointer none, .slice none 0 0] := Blk.alloc w _ _
  have H0 : WhS w (w.alloc (.cells #[.pointer none, .slice none 0 0] 121)) w.heap.size (.slice none 0 0) (.slice none 0 0) [] [] :=
    ⟨OwnS.nil_ _, Bd.zero b0, (fun g e => by cases e), (fun k hk => by rcases hk with rfl | e; exact Nat.le_refl _; cases e), (fun g e => by cases e), (Frm.refl _ w).alloc _⟩
  obtain ⟨w1, hw1⟩ : ∃ w1, w.alloc (.cells #[.pointer none, .slice none 0 0] 121) = w1 := ⟨_, rfl⟩
  obtain ⟨b, hb⟩ : ∃ b, w.heap.size = b := ⟨_, rfl⟩
  rw [hw1, hb] at H0
  have HB := Lib.hid hb
  have H0 := Lib.hid H0
  clear b0
  go_enter Tryz.func86, Tryz.ntmps86
  go_wp2_with fail
  clear hw1 hb
  go_loopw [3, 10] (fun gvv i wr => ∃ k : Nat, k ≤ l.length ∧ i = .int .i64 k ∧ ∃ gs cur bv gw, gw = gvv ∧ WhS w wr b gw bv gs cur ∧ scan 1 [] l = gs ++ scan (k + 1) cur (l.drop k) ∧ gs.length ≤ k ∧ cur.length ≤ 58 * k) (fun _ i _ => l.length - (intOf i).toNat)
  case atStart => exact ⟨0, Nat.zero_le _, rfl, [], [], _, _, rfl, H0.out, rfl, Nat.le_refl _, Nat.le_refl _⟩
  case round =>
    obtain ⟨k, hk, rfl, gs, cur, bv, gvv, rfl, hW, hsc, hgl, hcl⟩ := hrel
    clear H0
    by_cases hlt : k < l.length
    · obtain ⟨g, off, rfl, hg, c0⟩ := Strs.at (Strs.keepF HS.out.1 hW.frm) k hlt
      have hs64 := HS.out.2 l[k] (List.getElem_mem hlt)
      have hd : l.drop k = l[k] :: l.drop (k + 1) := List.drop_eq_getElem_cons hlt
      obtain ⟨s, hs⟩ : ∃ s, l[k] = s := ⟨_, rfl⟩
      rw [hs] at c0 hs64 hd
      rw [hd, scan_cons] at hsc
      obtain ⟨n1, n2, n3, n4, n5, hP⟩ := parsed (k + 1) s hs64 (by omega)
      obtain ⟨i1, hi1⟩ : ∃ i1 : Nat, k + 1 = i1 := ⟨_, rfl⟩
      have hki : (k : Int) + 1 = (i1 : Int) := by omega
      rw [hi1] at hP
      have hpl : (pieceB s).length ≤ 58 := by unfold pieceB fBytes; rw [List.length_take, List.length_take]; omega
      obtain ⟨p, hp⟩ : ∃ p, pieceB s = p := ⟨_, rfl⟩
      have hlti : (k : Int) < (l.length : Int) := by omega
      have HP0 := Lib.hid (hP.parse wr)
      have hPP := hP.piece
      rw [hp] at hPP hpl hsc
      have HP2 := Lib.hid hPP
      have hCC := hP.complete
      have hEE := hP.ends
      have HI := Lib.hid (And.intro hi1 (And.intro hsc (And.intro hgl (And.intro hcl hpl))))
      clear hP hPP hd hs hp hsc hgl hcl hpl hg hs64
      by_cases hok : okB i1 s
      · rw [decide_eq_true hok] at hCC
        have HCC := Lib.hid hCC
        have HOK := Lib.hid hok
        have HW := Lib.hid hW
        clear hCC hok hi1 hW
        by_cases hend : fEnd s = 1
        · have hE1 : RuleE 141 (.agg #[.int .u16 (i1 : Nat), .int .u16 (n1 : Nat), .int .u8 (n2 : Nat), .int .u8 (n3 : Nat), .string (bs n4), .int .u16 (n5 : Nat)]) true := by rw [decide_eq_true hend] at hEE; exact hEE
          have HEE := Lib.hid hE1
          have HEND := Lib.hid hend
          clear hEE hE1 hend
          go_wp2_with fail
          refine HP0.out.mono ?_
          rintro e w2 ⟨rfl, g2⟩
          have HW2 := Lib.hid (HW.out.keepF g2)
          have bA := Blk.alloc w2 185 #[.int .u16 (i1 : Nat), .int .u16 (n1 : Nat), .int .u8 (n2 : Nat), .int .u8 (n3 : Nat), .string (bs n4), .int .u16 (n5 : Nat)]
          have gA : Frm (fun _ => False) w2 (w2.alloc (.cells #[.int .u16 (i1 : Nat), .int .u16 (n1 : Nat), .int .u8 (n2 : Nat), .int .u8 (n3 : Nat), .string (bs n4), .int .u16 (n5 : Nat)] 185)) := (Frm.refl _ w2).alloc _
          have hAX : ¬ BdX b bv w2.heap.size := fun e => Nat.lt_irrefl _ (HW2.out.bd.lt2 _ e)
          have HAX := Lib.hid hAX
          have HA := Lib.hid (And.intro bA gA)
          clear g2 HP0 HW bA gA hAX
          go_wp2_with fail
          refine (HCC.out _).mono ?_
          rintro e w3 ⟨rfl, g3⟩
          have b3 := HA.out.1.keep g3 (fun h => h)
          have HW3 := Lib.hid (HW2.out.keepF (HA.out.2.trans g3))
          have c30 := b3.cell 0 rfl
          have c31 := b3.cell 1 rfl
          have c32 := b3.cell 2 rfl
          have c33 := b3.cell 3 rfl
          have c34 := b3.cell 4 rfl
          have c35 := b3.cell 5 rfl
          have HB3 := Lib.hid b3
          clear g3 b3 HCC HW2 HA
          go_wp2_with fail
          refine (HP2.out _).mono ?_
          rintro e w4 ⟨rfl, g4⟩
          have b4 := HB3.out.keep g4 (fun h => h)
          have hW4 := HW3.out.keepF g4
          have HWR := Lib.hid (bwrite_any b bv cur p w4 hW4.bd (by have := HI.out.2.2.2.1; have := HI.out.2.2.2.2; omega))
          have hbl4 := hW4.bnew
          have HB4 := Lib.hid (And.intro b4 (And.intro hW4 hbl4))
          clear g4 b4 hW4 hbl4 HP2 HW3 HB3 c30 c31 c32 c33 c34 c35
          go_wp2_with fail
          refine HWR.out.mono ?_
          rintro e w5 ⟨rfl, bv5, hb5, g5, hn5⟩
          have b5 := HB4.out.1.keep g5 HAX.out
          have HW5 := Lib.hid (HB4.out.2.1.wrote hb5 g5 hn5)
          have c50 := b5.cell 0 rfl
          have c51 := b5.cell 1 rfl
          have c52 := b5.cell 2 rfl
          have c53 := b5.cell 3 rfl
          have c54 := b5.cell 4 rfl
          have c55 := b5.cell 5 rfl
          clear b5 hb5 g5 hn5 HWR HB4 HAX
          go_wp2_with fail
          refine (HEE.out _).mono ?_
          rintro e w6 ⟨rfl, g6⟩
          have HW6 := Lib.hid (HW5.out.keepF g6)
          have HST := Lib.hid (bstring_any b bv5 (cur ++ p) w6 HW6.out.bd (by rw [List.length_append]; have := HI.out.2.2.2.1; have := HI.out.2.2.2.2; omega))
          clear g6 HEE HW5 c50 c51 c52 c53 c54 c55
          go_wp2_with fail
          refine HST.out.mono ?_
          rintro e w7 ⟨rfl, g7⟩
          have g8 : Frm (fun _ => False) w7 (w7.alloc (.cells #[.string (bs (cur ++ p))] 9)) := (Frm.refl _ w7).alloc _
          obtain ⟨gv', w9, hrun, ho, hgr, hnew⟩ := rappend_strs (w7.alloc (.cells #[.string (bs (cur ++ p))] 9)) gvv (.slice (some ⟨w7.heap.size, 0, none⟩) 1 1) gs [cur ++ p] ((HW6.out.reset g7).2.1.keep g8 (fun _ _ h => h)) (rstrs_one w7 (cur ++ p)) (by show gs.length + 1 ≤ 1000000; have := HI.out.2.2.1; omega)
          obtain ⟨ag, capg, rfl, _, _⟩ := Row.slice ho
          have el : (gs ++ [cur ++ p]).length = gs.length + 1 := by simp
          rw [el] at hrun
          have hE := fun w10 => HW6.out.ended (w10 := w10) g7 g8 ho hgr hnew
          rw [el] at hE
          obtain ⟨⟨pp, hbb⟩, _⟩ := hE w9
          have HRS := Lib.hid (breset_any b bv5 pp w9 hbb)
          have Hrun := Lib.hid hrun
          have HEN := Lib.hid (fun w10 => (hE w10).2)
          clear g7 g8 hrun ho hgr hnew hE hbb el HST HW6
          go_wp2_with (first | (at_builtin; refine Lib.wpList_append_run _ rfl _ _ _ _ rfl _ _ rfl rfl _ _ Hrun.out ?_) | fail)
          refine HRS.out.mono ?_
          rintro e w10 ⟨rfl, hb10, g10⟩
          have HW10 := Lib.hid (HEN.out w10 hb10 g10)
          clear hb10 g10 HRS HEN Hrun
          go_wp2_with fail
          go_roundw
          case rel =>
            refine ⟨k + 1, by omega, by go_num, gs ++ [cur ++ p], [], _, _, rfl, HW10.out, ?_, by rw [List.length_append]; have := HI.out.2.2.1; simp; omega, Nat.zero_le _⟩
            have e1 := HI.out.2.1
            rw [HI.out.1, if_pos HOK.out, if_pos HEND.out] at e1
            rw [e1, HI.out.1, List.append_assoc]
            rfl
          case measure => simp [intOf]; omega
        · have hE1 : RuleE 141 (.agg #[.int .u16 (i1 : Nat), .int .u16 (n1 : Nat), .int .u8 (n2 : Nat), .int .u8 (n3 : Nat), .string (bs n4), .int .u16 (n5 : Nat)]) false := by rw [decide_eq_false hend] at hEE; exact hEE
          have HEE := Lib.hid hE1
          have HEND := Lib.hid hend
          clear hEE hE1 hend
          go_wp2_with fail
          refine HP0.out.mono ?_
          rintro e w2 ⟨rfl, g2⟩
          have HW2 := Lib.hid (HW.out.keepF g2)
          have bA := Blk.alloc w2 185 #[.int .u16 (i1 : Nat), .int .u16 (n1 : Nat), .int .u8 (n2 : Nat), .int .u8 (n3 : Nat), .string (bs n4), .int .u16 (n5 : Nat)]
          have gA : Frm (fun _ => False) w2 (w2.alloc (.cells #[.int .u16 (i1 : Nat), .int .u16 (n1 : Nat), .int .u8 (n2 : Nat), .int .u8 (n3 : Nat), .string (bs n4), .int .u16 (n5 : Nat)] 185)) := (Frm.refl _ w2).alloc _
          have hAX : ¬ BdX b bv w2.heap.size := fun e => Nat.lt_irrefl _ (HW2.out.bd.lt2 _ e)
          have HAX := Lib.hid hAX
          have HA := Lib.hid (And.intro bA gA)
          clear g2 HP0 HW bA gA hAX
          go_wp2_with fail
          refine (HCC.out _).mono ?_
          rintro e w3 ⟨rfl, g3⟩
          have b3 := HA.out.1.keep g3 (fun h => h)
          have HW3 := Lib.hid (HW2.out.keepF (HA.out.2.trans g3))
          have c30 := b3.cell 0 rfl
          have c31 := b3.cell 1 rfl
          have c32 := b3.cell 2 rfl
          have c33 := b3.cell 3 rfl
          have c34 := b3.cell 4 rfl
          have c35 := b3.cell 5 rfl
          have HB3 := Lib.hid b3
          clear g3 b3 HCC HW2 HA
          go_wp2_with fail
          refine (HP2.out _).mono ?_
          rintro e w4 ⟨rfl, g4⟩
          have b4 := HB3.out.keep g4 (fun h => h)
          have hW4 := HW3.out.keepF g4
          have HWR := Lib.hid (bwrite_any b bv cur p w4 hW4.bd (by have := HI.out.2.2.2.1; have := HI.out.2.2.2.2; omega))
          have HB4 := Lib.hid (And.intro b4 hW4)
          clear g4 b4 hW4 HP2 HW3 HB3 c30 c31 c32 c33 c34 c35
          go_wp2_with fail
          refine HWR.out.mono ?_
          rintro e w5 ⟨rfl, bv5, hb5, g5, hn5⟩
          have b5 := HB4.out.1.keep g5 HAX.out
          have HW5 := Lib.hid (HB4.out.2.wrote hb5 g5 hn5)
          have c50 := b5.cell 0 rfl
          have c51 := b5.cell 1 rfl
          have c52 := b5.cell 2 rfl
          have c53 := b5.cell 3 rfl
          have c54 := b5.cell 4 rfl
          have c55 := b5.cell 5 rfl
          clear b5 hb5 g5 hn5 HWR HB4 HAX
          go_wp2_with fail
          refine (HEE.out _).mono ?_
          rintro e w6 ⟨rfl, g6⟩
          have HW6 := Lib.hid (HW5.out.keepF g6)
          clear g6 HEE HW5 c50 c51 c52 c53 c54 c55
          go_wp2_with fail
          go_roundw
          case rel =>
            refine ⟨k + 1, by omega, by go_num, gs, cur ++ p, _, _, rfl, HW6.out, ?_, by have := HI.out.2.2.1; omega, by rw [List.length_append]; have := HI.out.2.2.2.1; have := HI.out.2.2.2.2; omega⟩
            have e1 := HI.out.2.1
            rw [HI.out.1, if_pos HOK.out, if_neg HEND.out] at e1
            rw [e1, HI.out.1]
          case measure => simp [intOf]; omega
      · rw [decide_eq_false hok] at hCC
        have HCC := Lib.hid hCC
        have HOK := Lib.hid hok
        have HW := Lib.hid hW
        clear hCC hok hEE hi1 hW
        go_wp2_with fail
        refine HP0.out.mono ?_
        rintro e w2 ⟨rfl, g2⟩
        have HW2 := Lib.hid (HW.out.keepF g2)
        clear g2 HP0 HW
        go_wp2_with fail
        refine (HCC.out _).mono ?_
        rintro e w3 ⟨rfl, g3⟩
        have HW3 := Lib.hid (HW2.out.keepF (((Frm.refl _ w2).alloc _).trans g3))
        clear g3 HCC HW2
        go_wp2_with fail
        go_ret
        refine ⟨_, rfl, ?_⟩
        have e1 := HI.out.2.1
        rw [HI.out.1, if_neg HOK.out, List.append_nil] at e1
        rw [e1]
        exact ⟨HW3.out.own, HW3.out.gnew, HW3.out.frm⟩
    · obtain rfl : k = l.length := by omega
      have HW := Lib.hid hW
      rw [List.drop_length] at hsc
      have HSC := Lib.hid hsc
      clear hW hsc
      go_wp2_with fail
      go_ret
      refine ⟨_, rfl, ?_⟩
      rw [HSC.out]
      show NewL w wr _ (gs ++ [])
      rw [List.append_nil]
      exact ⟨HW.out.own, HW.out.gnew, HW.out.frm⟩
end Go.Proofs.YtddjkbpgaenpgaaGreat

