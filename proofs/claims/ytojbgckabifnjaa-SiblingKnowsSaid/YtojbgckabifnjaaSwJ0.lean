/- The document's own Equal, Check: of any registers. No condition but that the numbers have their bits. -/
import Derived.Test.YtojbgckabifnjaaSwD
import Derived.Test.YtojbgckabifnjaaSibN
section
namespace Go.Proofs.Ytojbgckabifnjaa
open Go.RowKit

theorem run_eq_rvec (f g : Nat → Nat) (w : World) : (Op.equalIn 10000 23 (.agg (vv f)) (.agg (vv g))).run Try.prog w = .ok (eq8 f g) w := by
  have u3 := Try.underlying22
  have a3 := Try.isAgg22
  have z3 := Try.sizeOf22
  rw [show (10000 : Nat) = 9999 + 1 from rfl, Op.equalIn]
  simp only [Sem.run_bind, run_underlying Try.underlying23, Result.andThen_ok]
  simp only [Std.Legacy.Range.forIn_eq_forIn_range', Std.Legacy.Range.size, Nat.sub_zero, Nat.add_sub_cancel, Nat.div_one, List.range'_succ, List.range'_zero, List.forIn_cons, List.forIn_nil]
  go_simp
  simp only [Int.natCast_inj, eq8]
  by_cases h0 : f 0 = g 0
  case neg => simp [h0]
  by_cases h1 : f 1 = g 1
  case neg => simp [h1]
  by_cases h2 : f 2 = g 2
  case neg => simp [h2]
  by_cases h3 : f 3 = g 3
  case neg => simp [h3]
  by_cases h4 : f 4 = g 4
  case neg => simp [h4]
  by_cases h5 : f 5 = g 5
  case neg => simp [h5]
  by_cases h6 : f 6 = g 6
  case neg => simp [h6]
  by_cases h7 : f 7 = g 7
  case neg => simp [h7]
  simp [h0, h1, h2, h3, h4, h5, h6, h7]
theorem fREq (f g : Nat → Nat) (q : Bool) (h : eq8 f g = q) : ∀ w, (Op.equalIn 10000 23 (.agg (vv f)) (.agg (vv g))).run Try.prog w = .ok q w := fun w => by rw [run_eq_rvec, h]
set_option maxRecDepth 100000 in
set_option maxHeartbeats 2000000 in
theorem requal_any (f g : Nat → Nat) (v1 v2 : Value) (l m : List SibI) (w : World) (h1 : SL w v1 l) (h2 : SL w v2 m) :
    Calls Try.prog 24 #[rg f v1, rg g v2] w fun e w' => e = .returned (.bool (eq8 f g && decide (l = m))) ∧ Frm (fun _ => False) w w' := by
  have E := fREq f g (eq8 f g) rfl
  obtain ⟨a, cap, rfl, hc1, hc2⟩ := h1.slice
  obtain ⟨b, capb, rfl, hd1, hd2⟩ := h2.slice
  unfold maxLen at hc2 hd2
  have g0 : Frm (fun _ => False) w ((w.alloc (.cells (rgc f (.slice a l.length cap)) 47)).alloc (.cells (rgc g (.slice b m.length capb)) 47)) := ((Frm.refl _ w).alloc _).alloc _
  have b0 : Blk ((w.alloc (.cells (rgc f (.slice a l.length cap)) 47)).alloc (.cells (rgc g (.slice b m.length capb)) 47)) w.heap.size 47 (rgc f (.slice a l.length cap)) := (Blk.alloc w _ _).old _
  have b1 : Blk ((w.alloc (.cells (rgc f (.slice a l.length cap)) 47)).alloc (.cells (rgc g (.slice b m.length capb)) 47)) (w.heap.size + 1) 47 (rgc g (.slice b m.length capb)) := Blk.at1 w _ _ _
  generalize eq8 f g = p at *
  go_enter Try.func24, Try.ntmps24
  go_upto_region 1 with fail
  generalize (w.alloc (.cells (rgc f (.slice a l.length cap)) 47)).alloc (.cells (rgc g (.slice b m.length capb)) 47) = w1 at *
  generalize w.heap.size = N at *
  have lf := load_rctx b0
  have lg := load_rctx b1
  have c8 := b0.cell 8 rfl
  have c9 := b1.cell 8 rfl
  have h1 := h1.keepF g0
  have h2 := h2.keepF g0
  cases p with
  | false =>
    go_wp2_with (first
      | ((with_reducible refine wpl_load rfl _ rfl ?_ lf ?_); (focus rfl))
      | ((with_reducible refine wpl_load rfl _ rfl ?_ lg ?_); (focus rfl)))
    go_ret
    exact ⟨rfl, g0⟩
  | true =>
    by_cases hl : l.length = m.length
    · have hli : ((l.length : Int) != (m.length : Int)) = false := by simp; omega
      have HL := Lib.hid hl
      clear hl
      go_wp2_with (first
        | ((with_reducible refine wpl_load rfl _ rfl ?_ lf ?_); (focus rfl))
        | ((with_reducible refine wpl_load rfl _ rfl ?_ lg ?_); (focus rfl)))
      clear lf lg E
      have HB0 := Lib.hid b0
      have HB1 := Lib.hid b1
      clear b0 b1 c8 c9
      go_loopw [5] (fun i wr => ∃ k : Nat, k ≤ l.length ∧ i = .int .i64 k ∧ (∀ j (hj : j < l.length) (hj2 : j < m.length), j < k → l[j] = m[j]) ∧ Frm (fun _ => False) w1 wr) (fun i _ => l.length - (intOf i).toNat)
      case atStart => exact ⟨0, Nat.zero_le _, rfl, fun j _ _ h => by omega, Frm.refl _ _⟩
      case round =>
        obtain ⟨k, hk, rfl, hbef, f1⟩ := hrel
        have HB := Lib.hid hbef
        clear hbef
        have c8 := (HB0.out.keep f1 (fun h => h)).cell 8 rfl
        have c9 := (HB1.out.keep f1 (fun h => h)).cell 8 rfl
        by_cases hlt : k < l.length
        · have hlm : k < m.length := by rw [← HL.out]; exact hlt
          have hk0 : (0 : Int) ≤ (k : Int) := by omega
          have hki : (k : Int) < (l.length : Int) := by omega
          have hkm : (k : Int) < (m.length : Int) := by omega
          obtain ⟨g1, off, rfl, x0, x1, x2⟩ := (h1.keepF f1).cells k hlt
          obtain ⟨g2, off', rfl, y0, y1, y2⟩ := (h2.keepF f1).cells k hlm
          have hQ := fun W => run_eq_rsibI l[k] m[k] W
          obtain ⟨q1, hq1⟩ : ∃ q1, decide (l[k] = m[k]) = q1 := ⟨_, rfl⟩
          rw [hq1] at hQ
          have HQ1 := Lib.hid hq1
          clear hq1
          go_upto_region 6 with fail
          go_quiet (fail)
          have f2 : Frm (fun _ => False) w1 (wr.drewN nq) := f1.trans ((Frm.refl _ wr).drewN nq)
          cases q1 with
          | true =>
            go_wp2_with fail
            go_roundw
            case rel =>
              refine ⟨k + 1, by omega, by go_num, fun j hj hj2 hjk => ?_, f2⟩
              by_cases e : j = k
              · subst e; exact of_decide_eq_true HQ1.out
              · exact HB.out j hj hj2 (by omega)
            case measure => simp [intOf]; omega
          | false =>
            go_wp2_with fail
            go_ret
            refine ⟨?_, g0.trans f2⟩
            have hne : ¬ (l = m) := fun e => by
              subst e
              exact of_decide_eq_false HQ1.out rfl
            rw [decide_eq_false hne]; rfl
        · obtain rfl : k = l.length := by omega
          have hnot : ¬ ((l.length : Int) < (m.length : Int)) := by have := HL.out; omega
          go_wp2_with fail
          go_ret
          refine ⟨?_, g0.trans f1⟩
          have he : l = m := by
            apply List.ext_getElem HL.out
            intro j hj hj2
            exact HB.out j hj hj2 hj
          rw [decide_eq_true he]; rfl
    · have hli : ((l.length : Int) != (m.length : Int)) = true := by simp; omega
      have hne : ¬ (l = m) := fun e => hl (congrArg List.length e)
      have HN := Lib.hid hne
      clear hl hne
      go_wp2_with (first
        | ((with_reducible refine wpl_load rfl _ rfl ?_ lf ?_); (focus rfl))
        | ((with_reducible refine wpl_load rfl _ rfl ?_ lg ?_); (focus rfl)))
      go_ret
      exact ⟨by rw [decide_eq_false HN.out]; rfl, g0⟩
end Go.Proofs.Ytojbgckabifnjaa
end
section
namespace Go.Proofs.Ytojbgckabifnjaa
open Go.RowKit

theorem run_first (w : World) (av : Option Addr) (n cap k : Nat) (hk : k ≤ cap) : (Instr.sliceAt 45 (.slice av n cap) none (some (.int .i64 (k : Int))) none).run Try.prog w = .ok (.slice av k cap) w := by
  have hu := Try.underlying45
  have hz := Try.sizeOf105
  have h0 : (0 : Int) ≤ (k : Int) := by omega
  have h1 : (k : Int) ≤ (cap : Int) := by omega
  go_simp
theorem run_behind (w : World) (av : Option Addr) (n cap k : Nat) (hk : k ≤ n) : (Instr.sliceAt 45 (.slice av n cap) (some (.int .i64 (k : Int))) none none).run Try.prog w = .ok (.slice (if cap = k then av else av.map (fun x : Addr => x.add (k * 3))) (n - k) (cap - k)) w := by
  have hu := Try.underlying45
  have hz := Try.sizeOf105
  have h0 : (0 : Int) ≤ (k : Int) := by omega
  have h1 : (k : Int) ≤ (n : Int) := by omega
  go_simp
theorem wpl_first {ops : Array Oper} {rest : List Oper} {o : Oper} {a : Act} {w : World} {Q : Exit → Act → World → Prop} (hgd : o.guard = none) (x y : Operand) (ho : o.op = .slice 45 x none (some y) none)
    (av : Option Addr) (n cap k : Nat) (hx : a.eval x = .slice av n cap) (hy : a.eval y = .int .i64 (k : Int)) (hk : k ≤ cap) (hK : wpList Try.prog ops Q rest (a.put o.dst (.slice av k cap)) w) : wpList Try.prog ops Q (o :: rest) a w := by
  refine wpList_plain hgd fun K hK' => ?_
  unfold Oper.wp execOp
  simp only [ho, hx, hy, Option.map_some, Option.map_none, Sem.run_bind, run_first w av n cap k hk, Result.andThen_ok, Sem.run_pure]
  exact hK' _ _ hK
theorem wpl_behind {ops : Array Oper} {rest : List Oper} {o : Oper} {a : Act} {w : World} {Q : Exit → Act → World → Prop} (hgd : o.guard = none) (x y : Operand) (ho : o.op = .slice 45 x (some y) none none)
    (av : Option Addr) (n cap k : Nat) (hx : a.eval x = .slice av n cap) (hy : a.eval y = .int .i64 (k : Int)) (hk : k ≤ n) (hK : wpList Try.prog ops Q rest (a.put o.dst (.slice (if cap = k then av else av.map (fun x : Addr => x.add (k * 3))) (n - k) (cap - k))) w) : wpList Try.prog ops Q (o :: rest) a w := by
  refine wpList_plain hgd fun K hK' => ?_
  unfold Oper.wp execOp
  simp only [ho, hx, hy, Option.map_some, Option.map_none, Sem.run_bind, run_behind w av n cap k hk, Result.andThen_ok, Sem.run_pure]
  exact hK' _ _ hK
end Go.Proofs.Ytojbgckabifnjaa
end
