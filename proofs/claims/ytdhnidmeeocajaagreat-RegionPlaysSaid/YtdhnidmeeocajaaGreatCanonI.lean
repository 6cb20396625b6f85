/- What whole answers. No condition. -/
import Derived.Test.YtdhnidmeeocajaaGreatRgK
import Derived.Test.YtdhnidmeeocajaaGreatCanonT
import Derived.OrdersIn
import Derived.CallsIn
section
namespace Go.Proofs.YtdhnidmeeocajaaGreat
open Go.RowKit Go.Shelf

/-- All that is asked of a parsed block, with its parts named. -/
structure Parsed (i : Nat) (s : List UInt8) (n1 n2 n3 : Nat) (n4 : List UInt8) (n5 : Nat) : Prop where
  parse : ∀ W, Calls Tryz.prog 106 #[.string (bs s), .int .i64 (i : Nat)] W fun e w' => e = .returned (.agg #[.int .u16 (i : Nat), .int .u16 (n1 : Nat), .int .u8 (n2 : Nat), .int .u8 (n3 : Nat), .string (bs n4), .int .u16 (n5 : Nat)]) ∧ Frm (fun _ => False) W w'
  complete : ∀ W, Calls Tryz.prog 107 #[.agg #[.int .u16 (i : Nat), .int .u16 (n1 : Nat), .int .u8 (n2 : Nat), .int .u8 (n3 : Nat), .string (bs n4), .int .u16 (n5 : Nat)]] W fun e w' => e = .returned (.bool (decide (okB i s))) ∧ Frm (fun _ => False) W w'
  piece : ∀ W, Calls Tryz.prog 108 #[.agg #[.int .u16 (i : Nat), .int .u16 (n1 : Nat), .int .u8 (n2 : Nat), .int .u8 (n3 : Nat), .string (bs n4), .int .u16 (n5 : Nat)]] W fun e w' => e = .returned (.string (bs (pieceB s))) ∧ Frm (fun _ => False) W w'
  ends : ∀ W, Calls Tryz.prog 109 #[.agg #[.int .u16 (i : Nat), .int .u16 (n1 : Nat), .int .u8 (n2 : Nat), .int .u8 (n3 : Nat), .string (bs n4), .int .u16 (n5 : Nat)]] W fun e w' => e = .returned (.bool (decide (fEnd s = 1))) ∧ Frm (fun _ => False) W w'
theorem parsed (i : Nat) (s : List UInt8) (hs : s.length = 64) (hi : i < 65536) : ∃ n1 n2 n3 n4 n5, Parsed i s n1 n2 n3 n4 n5 :=
  ⟨_, _, _, _, _, ⟨fun W => parse_any s i W hs hi, fun W => complete_any i s hs W, fun W => rg_piece i s hs W, rg_ends i s⟩⟩
set_option maxRecDepth 100000 in
set_option maxHeartbeats 8000000 in
theorem whole_any (v : Value) (l : List (List UInt8)) (w : World) (h : Strs w v l) (h64 : ∀ s ∈ l, s.length = 64) (hn : l.length ≤ 65535) :
    Calls Tryz.prog 70 #[v] w fun e w' => ∃ v', e = .returned v' ∧ NewL w w' v' (scan 1 [] l) := by
  obtain ⟨a, cap, rfl, hc1, hc2⟩ := h.slice
  unfold maxLen at hc2
  have HS := Lib.hid (And.intro h h64)
  clear h h64
  have b0 : Blk (w.alloc (.cells #[.pointer none, .slice none 0 0] 99)) w.heap.size 99 #[.pointer none, .slice none 0 0] := Blk.alloc w _ _
  have H0 : WhS w (w.alloc (.cells #[.pointer none, .slice none 0 0] 99)) w.heap.size (.slice none 0 0) (.slice none 0 0) [] [] :=
    ⟨OwnS.nil_ _, Bd.zero b0, (fun g e => by cases e), (fun k hk => by rcases hk with rfl | e; exact Nat.le_refl _; cases e), (fun g e => by cases e), (Frm.refl _ w).alloc _⟩
  obtain ⟨w1, hw1⟩ : ∃ w1, w.alloc (.cells #[.pointer none, .slice none 0 0] 99) = w1 := ⟨_, rfl⟩
  obtain ⟨b, hb⟩ : ∃ b, w.heap.size = b := ⟨_, rfl⟩
  rw [hw1, hb] at H0
  have HB := Lib.hid hb
  have H0 := Lib.hid H0
  clear b0
  go_enter Tryz.func70, Tryz.ntmps70
  go_wp2_with fail
  clear hw1 hb
  go_loopw [3, 10] (fun gvv i wr => ∃ k : Nat, k ≤ l.length ∧ i = .int .i64 k ∧ ∃ gs cur bv gw, gw = gvv ∧ WhS w wr b gw bv gs cur ∧ scan 1 [] l = gs ++ scan (k + 1) cur (l.drop k) ∧ gs.length ≤ k ∧ cur.length ≤ 58 * k) (fun _ i _ => l.length - (intOf i).toNat)
  case atStart => exact ⟨0, Nat.zero_le _, rfl, [], [], _, _, rfl, H0.out, rfl, Nat.le_refl _, Nat.le_refl _⟩
  case round =>
    obtain ⟨k, hk, rfl, gs, cur, bv, gvv, rfl, hW, hsc, hgl, hcl⟩ := hrel
    clear H0
    by_cases hlt : k < l.length
    · obtain ⟨g, off, rfl, hg, c0⟩ := Strs.at (Strs.keepF HS.out.1 hW.frm) k hlt
      have hs64 := HS.out.2 l[k] (List.getElem_mem hlt)
      have hd : l.drop k = l[k] :: l.drop (k + 1) := List.drop_eq_getElem_cons hlt
      obtain ⟨s, hs⟩ : ∃ s, l[k] = s := ⟨_, rfl⟩
      rw [hs] at c0 hs64 hd
      rw [hd, scan_cons] at hsc
      obtain ⟨n1, n2, n3, n4, n5, hP⟩ := parsed (k + 1) s hs64 (by omega)
      obtain ⟨i1, hi1⟩ : ∃ i1 : Nat, k + 1 = i1 := ⟨_, rfl⟩
      have hki : (k : Int) + 1 = (i1 : Int) := by omega
      rw [hi1] at hP
      have hpl : (pieceB s).length ≤ 58 := by unfold pieceB fBytes; rw [List.length_take, List.length_take]; omega
      obtain ⟨p, hp⟩ : ∃ p, pieceB s = p := ⟨_, rfl⟩
      have hlti : (k : Int) < (l.length : Int) := by omega
      have HP0 := Lib.hid (hP.parse wr)
      have hPP := hP.piece
      rw [hp] at hPP hpl hsc
      have HP2 := Lib.hid hPP
      have hCC := hP.complete
      have hEE := hP.ends
      have HI := Lib.hid (And.intro hi1 (And.intro hsc (And.intro hgl (And.intro hcl hpl))))
      clear hP hPP hd hs hp hsc hgl hcl hpl hg hs64
      by_cases hok : okB i1 s
      · rw [decide_eq_true hok] at hCC
        have HCC := Lib.hid hCC
        have HOK := Lib.hid hok
        have HW := Lib.hid hW
        clear hCC hok hi1 hW
        by_cases hend : fEnd s = 1
        · have hE1 : RuleE 109 (.agg #[.int .u16 (i1 : Nat), .int .u16 (n1 : Nat), .int .u8 (n2 : Nat), .int .u8 (n3 : Nat), .string (bs n4), .int .u16 (n5 : Nat)]) true := by rw [decide_eq_true hend] at hEE; exact hEE
          have HEE := Lib.hid hE1
          have HEND := Lib.hid hend
          clear hEE hE1 hend
          go_wp2_with fail
          refine HP0.out.mono ?_
          rintro e w2 ⟨rfl, g2⟩
          have HW2 := Lib.hid (HW.out.keepF g2)
          have bA := Blk.alloc w2 157 #[.int .u16 (i1 : Nat), .int .u16 (n1 : Nat), .int .u8 (n2 : Nat), .int .u8 (n3 : Nat), .string (bs n4), .int .u16 (n5 : Nat)]
          have gA : Frm (fun _ => False) w2 (w2.alloc (.cells #[.int .u16 (i1 : Nat), .int .u16 (n1 : Nat), .int .u8 (n2 : Nat), .int .u8 (n3 : Nat), .string (bs n4), .int .u16 (n5 : Nat)] 157)) := (Frm.refl _ w2).alloc _
          have hAX : ¬ BdX b bv w2.heap.size := fun e => Nat.lt_irrefl _ (HW2.out.bd.lt2 _ e)
          have HAX := Lib.hid hAX
          have HA := Lib.hid (And.intro bA gA)
          clear g2 HP0 HW bA gA hAX
          go_wp2_with fail
          refine (HCC.out _).mono ?_
          rintro e w3 ⟨rfl, g3⟩
          have b3 := HA.out.1.keep g3 (fun h => h)
          have HW3 := Lib.hid (HW2.out.keepF (HA.out.2.trans g3))
          have c30 := b3.cell 0 rfl
          have c31 := b3.cell 1 rfl
          have c32 := b3.cell 2 rfl
          have c33 := b3.cell 3 rfl
          have c34 := b3.cell 4 rfl
          have c35 := b3.cell 5 rfl
          have HB3 := Lib.hid b3
          clear g3 b3 HCC HW2 HA
          go_wp2_with fail
          refine (HP2.out _).mono ?_
          rintro e w4 ⟨rfl, g4⟩
          have b4 := HB3.out.keep g4 (fun h => h)
          have hW4 := HW3.out.keepF g4
          have HWR := Lib.hid (bwrite_any b bv cur p w4 hW4.bd (by have := HI.out.2.2.2.1; have := HI.out.2.2.2.2; omega))
          have hbl4 := hW4.bnew
          have HB4 := Lib.hid (And.intro b4 (And.intro hW4 hbl4))
          clear g4 b4 hW4 hbl4 HP2 HW3 HB3 c30 c31 c32 c33 c34 c35
          go_wp2_with fail
          refine HWR.out.mono ?_
          rintro e w5 ⟨rfl, bv5, hb5, g5, hn5⟩
          have b5 := HB4.out.1.keep g5 HAX.out
          have HW5 := Lib.hid (HB4.out.2.1.wrote hb5 g5 hn5)
          have c50 := b5.cell 0 rfl
          have c51 := b5.cell 1 rfl
          have c52 := b5.cell 2 rfl
          have c53 := b5.cell 3 rfl
          have c54 := b5.cell 4 rfl
          have c55 := b5.cell 5 rfl
          clear b5 hb5 g5 hn5 HWR HB4 HAX
          go_wp2_with fail
          refine (HEE.out _).mono ?_
          rintro e w6 ⟨rfl, g6⟩
          have HW6 := Lib.hid (HW5.out.keepF g6)
          have HST := Lib.hid (bstring_any b bv5 (cur ++ p) w6 HW6.out.bd (by rw [List.length_append]; have := HI.out.2.2.2.1; have := HI.out.2.2.2.2; omega))
          clear g6 HEE HW5 c50 c51 c52 c53 c54 c55
          go_wp2_with fail
          refine HST.out.mono ?_
          rintro e w7 ⟨rfl, g7⟩
          have g8 : Frm (fun _ => False) w7 (w7.alloc (.cells #[.string (bs (cur ++ p))] 9)) := (Frm.refl _ w7).alloc _
          obtain ⟨gv', w9, hrun, ho, hgr, hnew⟩ := rappend_strs (w7.alloc (.cells #[.string (bs (cur ++ p))] 9)) gvv (.slice (some ⟨w7.heap.size, 0, none⟩) 1 1) gs [cur ++ p] ((HW6.out.reset g7).2.1.keep g8 (fun _ _ h => h)) (rstrs_one w7 (cur ++ p)) (by show gs.length + 1 ≤ 1000000; have := HI.out.2.2.1; omega)
          obtain ⟨ag, capg, rfl, _, _⟩ := Row.slice ho
          have el : (gs ++ [cur ++ p]).length = gs.length + 1 := by simp
          rw [el] at hrun
          have hE := fun w10 => HW6.out.ended (w10 := w10) g7 g8 ho hgr hnew
          rw [el] at hE
          obtain ⟨⟨pp, hbb⟩, _⟩ := hE w9
          have HRS := Lib.hid (breset_any b bv5 pp w9 hbb)
          have Hrun := Lib.hid hrun
          have HEN := Lib.hid (fun w10 => (hE w10).2)
          clear g7 g8 hrun ho hgr hnew hE hbb el HST HW6
          go_wp2_with (first | (at_builtin; refine Lib.wpList_append_run _ rfl _ _ _ _ rfl _ _ rfl rfl _ _ Hrun.out ?_) | fail)
          refine HRS.out.mono ?_
          rintro e w10 ⟨rfl, hb10, g10⟩
          have HW10 := Lib.hid (HEN.out w10 hb10 g10)
          clear hb10 g10 HRS HEN Hrun
          go_wp2_with fail
          go_roundw
          case rel =>
            refine ⟨k + 1, by omega, by go_num, gs ++ [cur ++ p], [], _, _, rfl, HW10.out, ?_, by rw [List.length_append]; have := HI.out.2.2.1; simp; omega, Nat.zero_le _⟩
            have e1 := HI.out.2.1
            rw [HI.out.1, if_pos HOK.out, if_pos HEND.out] at e1
            rw [e1, HI.out.1, List.append_assoc]
            rfl
          case measure => simp [intOf]; omega
        · have hE1 : RuleE 109 (.agg #[.int .u16 (i1 : Nat), .int .u16 (n1 : Nat), .int .u8 (n2 : Nat), .int .u8 (n3 : Nat), .string (bs n4), .int .u16 (n5 : Nat)]) false := by rw [decide_eq_false hend] at hEE; exact hEE
          have HEE := Lib.hid hE1
          have HEND := Lib.hid hend
          clear hEE hE1 hend
          go_wp2_with fail
          refine HP0.out.mono ?_
          rintro e w2 ⟨rfl, g2⟩
          have HW2 := Lib.hid (HW.out.keepF g2)
          have bA := Blk.alloc w2 157 #[.int .u16 (i1 : Nat), .int .u16 (n1 : Nat), .int .u8 (n2 : Nat), .int .u8 (n3 : Nat), .string (bs n4), .int .u16 (n5 : Nat)]
          have gA : Frm (fun _ => False) w2 (w2.alloc (.cells #[.int .u16 (i1 : Nat), .int .u16 (n1 : Nat), .int .u8 (n2 : Nat), .int .u8 (n3 : Nat), .string (bs n4), .int .u16 (n5 : Nat)] 157)) := (Frm.refl _ w2).alloc _
          have hAX : ¬ BdX b bv w2.heap.size := fun e => Nat.lt_irrefl _ (HW2.out.bd.lt2 _ e)
          have HAX := Lib.hid hAX
          have HA := Lib.hid (And.intro bA gA)
          clear g2 HP0 HW bA gA hAX
          go_wp2_with fail
          refine (HCC.out _).mono ?_
          rintro e w3 ⟨rfl, g3⟩
          have b3 := HA.out.1.keep g3 (fun h => h)
          have HW3 := Lib.hid (HW2.out.keepF (HA.out.2.trans g3))
          have c30 := b3.cell 0 rfl
          have c31 := b3.cell 1 rfl
          have c32 := b3.cell 2 rfl
          have c33 := b3.cell 3 rfl
          have c34 := b3.cell 4 rfl
          have c35 := b3.cell 5 rfl
          have HB3 := Lib.hid b3
          clear g3 b3 HCC HW2 HA
          go_wp2_with fail
          refine (HP2.out _).mono ?_
          rintro e w4 ⟨rfl, g4⟩
          have b4 := HB3.out.keep g4 (fun h => h)
          have hW4 := HW3.out.keepF g4
          have HWR := Lib.hid (bwrite_any b bv cur p w4 hW4.bd (by have := HI.out.2.2.2.1; have := HI.out.2.2.2.2; omega))
          have HB4 := Lib.hid (And.intro b4 hW4)
          clear g4 b4 hW4 HP2 HW3 HB3 c30 c31 c32 c33 c34 c35
          go_wp2_with fail
          refine HWR.out.mono ?_
          rintro e w5 ⟨rfl, bv5, hb5, g5, hn5⟩
          have b5 := HB4.out.1.keep g5 HAX.out
          have HW5 := Lib.hid (HB4.out.2.wrote hb5 g5 hn5)
          have c50 := b5.cell 0 rfl
          have c51 := b5.cell 1 rfl
          have c52 := b5.cell 2 rfl
          have c53 := b5.cell 3 rfl
          have c54 := b5.cell 4 rfl
          have c55 := b5.cell 5 rfl
          clear b5 hb5 g5 hn5 HWR HB4 HAX
          go_wp2_with fail
          refine (HEE.out _).mono ?_
          rintro e w6 ⟨rfl, g6⟩
          have HW6 := Lib.hid (HW5.out.keepF g6)
          clear g6 HEE HW5 c50 c51 c52 c53 c54 c55
          go_wp2_with fail
          go_roundw
          case rel =>
            refine ⟨k + 1, by omega, by go_num, gs, cur ++ p, _, _, rfl, HW6.out, ?_, by have := HI.out.2.2.1; omega, by rw [List.length_append]; have := HI.out.2.2.2.1; have := HI.out.2.2.2.2; omega⟩
            have e1 := HI.out.2.1
            rw [HI.out.1, if_pos HOK.out, if_neg HEND.out] at e1
            rw [e1, HI.out.1]
          case measure => simp [intOf]; omega
      · rw [decide_eq_false hok] at hCC
        have HCC := Lib.hid hCC
        have HOK := Lib.hid hok
        have HW := Lib.hid hW
        clear hCC hok hEE hi1 hW
        go_wp2_with fail
        refine HP0.out.mono ?_
        rintro e w2 ⟨rfl, g2⟩
        have HW2 := Lib.hid (HW.out.keepF g2)
        clear g2 HP0 HW
        go_wp2_with fail
        refine (HCC.out _).mono ?_
        rintro e w3 ⟨rfl, g3⟩
        have HW3 := Lib.hid (HW2.out.keepF (((Frm.refl _ w2).alloc _).trans g3))
        clear g3 HCC HW2
        go_wp2_with fail
        go_ret
        refine ⟨_, rfl, ?_⟩
        have e1 := HI.out.2.1
        rw [HI.out.1, if_neg HOK.out, List.append_nil] at e1
        rw [e1]
        exact ⟨HW3.out.own, HW3.out.gnew, HW3.out.frm⟩
    · obtain rfl : k = l.length := by omega
      have HW := Lib.hid hW
      rw [List.drop_length] at hsc
      have HSC := Lib.hid hsc
      clear hW hsc
      go_wp2_with fail
      go_ret
      refine ⟨_, rfl, ?_⟩
      rw [HSC.out]
      show NewL w wr _ (gs ++ [])
      rw [List.append_nil]
      exact ⟨HW.out.own, HW.out.gnew, HW.out.frm⟩
end Go.Proofs.YtdhnidmeeocajaaGreat
end
section
namespace Go.Proofs.YtdhnidmeeocajaaGreat
open Go.RowKit

section
variable {n9 : Nat} {P : Program} {ops : Array Oper} {Q : Exit → Act → World → Prop} {S : World → Prop} {F : Act → Prop}
def wpTailI (n9 : Nat) (P : Program) (ops : Array Oper) (Q : Exit → Act → World → Prop) : Nat → Nat → Act → World → Prop
  | _, 0, a, w => Q .normal a w
  | r, m + 1, a, w => wpOpIn Fence.wide n9 P ops Q r (fun a w => wpTailI n9 P ops Q (r + 1) m a w) a w
theorem wpTailI.cons {r m : Nat} {a : Act} {w : World} {o : Oper} (hi : ops[r]? = some o) (hg : o.guard = none) (h : ∀ K : Act → World → Prop, (∀ a w, wpTailI n9 P ops Q (r + 1) m a w → K a w) → o.wpIn Fence.wide n9 P a w K Q) : wpTailI n9 P ops Q r (m + 1) a w := by
  show wpOpIn Fence.wide n9 P ops Q r _ a w
  unfold wpOpIn
  simp only [hi]
  rw [if_pos (by unfold Region.wanted; rw [hg])]
  exact h _ fun _ _ h => h
theorem wpTailI.done {r : Nat} {a : Act} {w : World} (h : Q .normal a w) : wpTailI n9 P ops Q r 0 a w := h
theorem Det.wpOpI {i : Nat} {o : Oper} {v : Value} {a : Act} (hi : ops[i]? = some o) (hy : Det P ops S o v a)
    {K : Act → World → Prop} {w : World} (hS : S w) (h : ∀ w', S w' → K (a.put o.dst v) w') : wpOpIn Fence.wide n9 P ops Q i K a w := by
  unfold Go.wpOpIn
  simp only [hi]
  rcases hy with ⟨hw, hv⟩ | ⟨hw, rfl⟩
  · simp only [hw, if_true]
    refine ⟨fun _ _ => trivial, ?_⟩
    have hv := hv w hS
    show o.uponIn Fence.wide n9 P a K Q ((execOp a.eval o).run P w)
    generalize (execOp a.eval o).run P w = r at *
    cases r with
    | ok n w' =>
      cases n <;> simp only [Gives] at hv
      case value u => obtain ⟨rfl, h2⟩ := hv; exact h _ h2
      case skip => obtain ⟨rfl, h2⟩ := hv; exact h _ h2
      case enter f args =>
        simp only [Oper.uponIn]
        refine ⟨fun hd => by simp [Fence.wide] at hd, callsIn_wide.2 (Calls.mono hv fun e w'' he => ?_)⟩
        obtain ⟨rfl, h2⟩ := he
        exact h _ h2
    | halt x w' => exact hv.elim
  · simp only [hw, Bool.false_eq_true, if_false]; exact ⟨fun _ _ => trivial, h w hS⟩
theorem chain_anyI {md : Region.Mode} : ∀ (m r : Nat) (listed : Array Bool) (a : Act) (w : World), (∀ k, k + 1 < m → waits md ops (r + k + 1) (r + k) = true) → Left md ops listed (List.range' r m) → wpTailI n9 P ops Q r m a w → wpAnyIn Fence.wide n9 P md ops Q m listed a w := by
  intro m
  induction m with
  | zero =>
    intro r listed a w _ hv h
    refine ⟨?_, h⟩
    rw [List.eq_nil_iff_forall_not_mem]
    intro k hk
    have := hv.here k (mem_ready.1 hk).1
    simp at this
  | succ m ih =>
    intro r listed a w hch hv h
    have hcons : List.range' r (m + 1) = r :: List.range' (r + 1) m := List.range'_succ ..
    refine ⟨fun h0 => ?_, fun j hj => ?_⟩
    · rw [hcons] at hv
      have := hv.head; rw [h0] at this; simp at this
    · obtain ⟨hun, oj, hoj, hall⟩ := mem_ready.1 hj
      have hm := hv.here j hun
      have hjr : j = r := by
        rcases Nat.eq_or_lt_of_le (show r ≤ j by simp [List.mem_range'_1] at hm; omega) with h1 | h1
        · exact h1.symm
        · exfalso
          have hjm : j < r + (m + 1) := by simp [List.mem_range'_1] at hm; omega
          have hw := hch (j - r - 1) (by omega)
          rw [show r + (j - r - 1) + 1 = j by omega] at hw
          obtain ⟨e, he, hb, he2⟩ := (waits_iff hoj).1 hw
          have h3 := hall e he hb
          rw [he2] at h3
          exact unlisted_ne (hv.un (r + (j - r - 1)) (by simp [List.mem_range'_1]; omega)) h3
      subst hjr
      refine wpOpIn_mono (fun a w h => ih (j + 1) _ a w (fun k hk => ?_) ?_ h) h
      · have := hch (k + 1) (by omega)
        rwa [show j + (k + 1) + 1 = j + 1 + k + 1 by omega, show j + (k + 1) = j + 1 + k by omega] at this
      · rw [hcons] at hv
        exact Left.take (pre := []) hv

theorem canonT_anyI {md : Region.Mode} {r m : Nat} (hr : r + m < ops.size) (ht : tailB md ops r m = true) (hsel : ∀ (j : Nat) (o : Oper) cs b, ops[j]? = some o → o.op ≠ .select cs b)
    (hF : ∀ a w, F a → S w → wpTailI n9 P ops Q r (m + 1) a w) :
    ∀ (n : Nat) (is : List Nat) (listed : Array Bool) (a : Act) (w : World), is.length = n → (∀ i ∈ is, i < r) → S w → Left md ops listed (is ++ List.range' r (m + 1)) → Closed md ops listed → Canon P ops S F is a → wpAnyIn Fence.wide n9 P md ops Q (n + (m + 1)) listed a w := by
  simp only [tailB, Bool.and_eq_true] at ht
  obtain ⟨hroot, hch⟩ := ht
  simp only [List.all_eq_true, List.mem_range] at hch
  intro n
  induction n with
  | zero =>
    intro is listed a w hl hlt hS hv hcl hc
    obtain rfl : is = [] := List.eq_nil_of_length_eq_zero hl
    rw [Nat.zero_add]
    exact chain_anyI (m + 1) r listed a w (fun k hk => hch k (by omega)) hv (hF a w hc hS)
  | succ n ih =>
    intro is listed a w hl hlt hS hv hcl hc
    rw [show n + 1 + (m + 1) = (n + (m + 1)) + 1 by omega]
    refine ⟨fun h0 => ?_, fun j hj => ?_⟩
    · cases is with
      | nil => simp at hl
      | cons i is => have := Left.head (i := i) (is := is ++ List.range' r (m + 1)) hv; rw [h0] at this; simp at this
    · obtain ⟨hun, oj, hoj, hall⟩ := mem_ready.1 hj
      have hall2 : ∀ o, ops[j]? = some o → ∀ e ∈ o.after, Region.binds md e = true → listed.getD e.on false = true := fun o ho => by rw [hoj] at ho; cases ho; exact hall
      rcases List.mem_append.1 (hv.here j hun) with hm | hm
      · obtain ⟨pre, post, rfl⟩ := List.append_of_mem hm
        have hv' : Left md ops listed (pre ++ j :: (post ++ List.range' r (m + 1))) := by simpa using hv
        have hap : ∀ p ∈ pre, apartB ops p j = true := by
          intro p hp
          have h1 := (List.pairwise_append.1 hv'.pair).2.2 p hp j List.mem_cons_self
          rcases h1.2 with h2 | h2
          · exfalso
            obtain ⟨e, he, hb, rfl⟩ := (waits_iff hoj).1 h2
            exact unlisted_ne (hv'.un e.on (List.mem_append_left _ hp)) (hall e he hb)
          · exact h2
        obtain ⟨o, v, ho, hd, hrest⟩ := move_ hsel pre a hap hc
        refine hd.wpOpI ho hS fun w' hS' => ih _ _ _ _ (by simp at hl ⊢; omega) (fun i hi => hlt i (by rcases List.mem_append.1 hi with h | h; exact List.mem_append_left _ h; exact List.mem_append_right _ (List.mem_cons_of_mem _ h))) hS' ?_ (hcl.set hall2) hrest
        have := hv'.take
        simpa using this
      · exfalso
        have hjm : r ≤ j ∧ j < r + (m + 1) := by simp [List.mem_range'_1] at hm; omega
        rcases Nat.eq_or_lt_of_le hjm.1 with h1 | h1
        · subst h1
          cases is with
          | nil => simp at hl
          | cons i is =>
            have h2 := tail_all (by omega) hroot hcl hall2 (r - i) i (hlt i (by simp)) rfl
            exact unlisted_ne (hv.un i (by simp)) h2
        · have hw := hch (j - r - 1) (by omega)
          rw [show r + (j - r - 1) + 1 = j by omega] at hw
          obtain ⟨e, he, hb, he2⟩ := (waits_iff hoj).1 hw
          have h3 := hall e he hb
          rw [he2] at h3
          exact unlisted_ne (hv.un (r + (j - r - 1)) (List.mem_append_right _ (by simp [List.mem_range'_1]; omega))) h3

theorem wp_region_tailI {id : Nat} {a : Act} {w : World} (r m : Nat) (S : World → Prop) {os' os ts : List Oper} (hm : P.follows .mixedOrders = true) (hos' : ops = os'.toArray) (hsp : splitN r os' = some (os, ts)) (hsz : ops.size = r + (m + 1)) (hn : Region.noSelect ops = true) (hb : canonB .any ops = true) (ht : tailB .any ops r m = true)
    (hS : S w.drew) (hc : CanonL P ops S (fun a => ∀ w, S w → wpTailI n9 P ops Q r (m + 1) a w) os a) : (Code.region id ops true).wpIn Fence.wide n9 P Q a w := by
  obtain ⟨h1, h2⟩ := splitN_eq _ _ _ _ hsp
  refine wpIn_region_any hm ?_
  rw [hsz]
  refine canonT_anyI (F := fun a => ∀ w, S w → wpTailI n9 P ops Q r (m + 1) a w) (by omega) ht (Region.noSelect_spec hn) (fun a w hF hS => hF w hS) r (List.range r) _ a _ (by simp) (fun i hi => List.mem_range.1 hi) hS ?_ (Closed.start _ _) ?_
  · have := Left.start hb
    rw [hsz, List.range_eq_range', ← List.range'_append_1, Nat.zero_add] at this
    rw [List.range_eq_range']
    exact this
  · have h := canon_of os 0 a (fun j h => by subst hos'; rw [Nat.zero_add, h1]; simp [List.getElem?_append, h]) hc
    have e : List.range r = List.range' 0 os.length := by rw [h2, List.range_eq_range']
    rw [e]
    exact h
end
end Go.Proofs.YtdhnidmeeocajaaGreat
end
