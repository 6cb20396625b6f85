/- Whether a register is these siblings and this context: the statements' own function is. -/
import Derived.Test.YtojbgckabifnjaaSibU
section
namespace Go.Proofs.Ytojbgckabifnjaa
open Go.RowKit

theorem run_eq_dotd (d : Nat) (r n r' n' : Nat) (w : World) : (Op.equalIn (d + 2) 27 (.agg (dv r n)) (.agg (dv r' n'))).run Try.prog w = .ok (r == r' && n == n') w := by
  have u3 := Try.underlying22
  have a3 := Try.isAgg22
  have z3 := Try.sizeOf22
  have u5 := Try.underlying5
  have a5 := Try.isAgg5
  have z5 := Try.sizeOf5
  have hS : Try.prog.underlying 27 = some (.struct (Try.prog.fieldsOf 27)) := by kernel_rfl
  rw [run_equalIn_agg w (d + 1) 27 _ _ hS (by kernel_rfl)]
  simp only [Program.fieldsOf, Try.underlying27]
  go_simp
  simp only [Int.natCast_inj]
  by_cases h0 : r = r'
  case neg => simp [h0]
  by_cases h1 : n = n' <;> simp [h0, h1]

theorem run_eq_sib (x y : SibI) (w : World) : (Op.equalIn 10000 76 (.agg #[.int .u8 x.r, .int .u32 x.n, .string (bs x.s)]) (.agg #[.int .u8 y.r, .int .u32 y.n, .string (bs y.s)])).run Try.prog w = .ok (x.r == y.r && x.n == y.n && (bs x.s).toList == (bs y.s).toList) w := by
  have u9 := Try.underlying9
  have a9 := Try.isAgg9
  have z9 := Try.sizeOf9
  have ad := Try.isAgg27
  have zd := Try.sizeOf27
  have hS : Try.prog.underlying 76 = some (.struct (Try.prog.fieldsOf 76)) := by kernel_rfl
  have hd := fun W => run_eq_dotd 9997 x.r x.n y.r y.n W
  rw [show (10000 : Nat) = 9999 + 1 from rfl, run_equalIn_agg w 9999 76 _ _ hS (by kernel_rfl)]
  simp only [Program.fieldsOf, Try.underlying76]
  clear hS
  rw [show (9997 : Nat) + 2 = 9999 from rfl] at hd
  generalize hX : Op.equalIn 9999 27 = E at hd
  unfold Op.eqFields
  simp only [hX]
  have hd' : ∀ W, (E (.agg #[.int .u8 x.r, .int .u32 x.n]) (.agg #[.int .u8 y.r, .int .u32 y.n])).run Try.prog W = .ok (x.r == y.r && x.n == y.n) W := hd
  clear hd
  generalize (x.r == y.r && x.n == y.n) = p at *
  cases p
  · go_simp
  · go_simp
    by_cases h : (bs x.s).toList = (bs y.s).toList <;> simp [h]

instance : DecidableEq SibI := fun x y => decidable_of_iff (x.r = y.r ∧ x.n = y.n ∧ x.s = y.s) ⟨fun h => SibI.ext' h.1 h.2.1 h.2.2, fun h => by subst h; exact ⟨rfl, rfl, rfl⟩⟩
theorem run_eq_sibI (x y : SibI) (w : World) : (Op.equalIn 10000 76 (.agg #[.int .u8 x.r, .int .u32 x.n, .string (bs x.s)]) (.agg #[.int .u8 y.r, .int .u32 y.n, .string (bs y.s)])).run Try.prog w = .ok (decide (x = y)) w := by
  rw [run_eq_sib, bs_toList, bs_toList]
  congr 1
  rw [Bool.eq_iff_iff]
  simp only [Bool.and_eq_true, beq_iff_eq, decide_eq_true_eq]
  exact ⟨fun h => SibI.ext' h.1.1 h.1.2 h.2, fun h => by subst h; exact ⟨⟨rfl, rfl⟩, rfl⟩⟩

set_option maxRecDepth 100000 in
set_option maxHeartbeats 2000000 in
theorem is_any (f g : Nat → Nat) (v1 v2 : Value) (l m : List SibI) (w : World) (h1 : SL w v1 l) (h2 : SL w v2 m) :
    Calls Try.prog 46 #[rg f v1, .agg (vv g), v2] w fun e w' => e = .returned (.bool (eq8 f g && decide (l = m))) ∧ Frm (fun _ => False) w w' := by
  have E := fEq f g (eq8 f g) rfl
  obtain ⟨a, cap, rfl, hc1, hc2⟩ := h1.slice
  obtain ⟨b, capb, rfl, hd1, hd2⟩ := h2.slice
  unfold maxLen at hc2 hd2
  have g0 : Frm (fun _ => False) w ((w.alloc (.cells (rgc f (.slice a l.length cap)) 39)).alloc (.cells (vv g) 24)) := ((Frm.refl _ w).alloc _).alloc _
  have b0 : Blk ((w.alloc (.cells (rgc f (.slice a l.length cap)) 39)).alloc (.cells (vv g) 24)) w.heap.size 39 (rgc f (.slice a l.length cap)) := (Blk.alloc w _ _).old _
  have b1 : Blk ((w.alloc (.cells (rgc f (.slice a l.length cap)) 39)).alloc (.cells (vv g) 24)) (w.heap.size + 1) 24 (vv g) := Blk.at1 w _ _ _
  generalize eq8 f g = p at *
  go_enter Try.func46, Try.ntmps46
  go_upto_region 1 with fail
  generalize (w.alloc (.cells (rgc f (.slice a l.length cap)) 39)).alloc (.cells (vv g) 24) = w1 at *
  generalize w.heap.size = N at *
  have lf := load_ctx b0
  have lg := load_vec b1
  have c8 := b0.cell 8 rfl
  have h1 := h1.keepF g0
  have h2 := h2.keepF g0
  cases p with
  | false =>
    go_wp2_with (first
      | ((with_reducible refine wpl_load rfl _ rfl ?_ lf ?_); (focus rfl))
      | ((with_reducible refine wpl_load rfl _ rfl ?_ lg ?_); (focus rfl)))
    go_ret
    exact ⟨rfl, g0⟩
  | true =>
    by_cases hl : l.length = m.length
    · have hli : ((l.length : Int) != (m.length : Int)) = false := by simp; omega
      have HL := Lib.hid hl
      clear hl
      go_wp2_with (first
        | ((with_reducible refine wpl_load rfl _ rfl ?_ lf ?_); (focus rfl))
        | ((with_reducible refine wpl_load rfl _ rfl ?_ lg ?_); (focus rfl)))
      clear lf lg E
      have HB0 := Lib.hid b0
      clear b0 b1 c8
      go_loopw [7] (fun i wr => ∃ k : Nat, k ≤ l.length ∧ i = .int .i64 k ∧ (∀ j (hj : j < l.length) (hj2 : j < m.length), j < k → l[j] = m[j]) ∧ Frm (fun _ => False) w1 wr) (fun i _ => l.length - (intOf i).toNat)
      case atStart => exact ⟨0, Nat.zero_le _, rfl, fun j _ _ h => by omega, Frm.refl _ _⟩
      case round =>
        obtain ⟨k, hk, rfl, hbef, f1⟩ := hrel
        have HB := Lib.hid hbef
        clear hbef
        have c8 := (HB0.out.keep f1 (fun h => h)).cell 8 rfl
        by_cases hlt : k < l.length
        · have hlm : k < m.length := by rw [← HL.out]; exact hlt
          have hk0 : (0 : Int) ≤ (k : Int) := by omega
          have hki : (k : Int) < (l.length : Int) := by omega
          have hkm : (k : Int) < (m.length : Int) := by omega
          obtain ⟨g1, off, rfl, x0, x1, x2⟩ := (h1.keepF f1).cells k hlt
          obtain ⟨g2, off', rfl, y0, y1, y2⟩ := (h2.keepF f1).cells k hlm
          have hQ := fun W => run_eq_sibI l[k] m[k] W
          obtain ⟨q1, hq1⟩ : ∃ q1, decide (l[k] = m[k]) = q1 := ⟨_, rfl⟩
          rw [hq1] at hQ
          have HQ1 := Lib.hid hq1
          clear hq1
          go_upto_region 6 with fail
          go_quiet (fail)
          have f2 : Frm (fun _ => False) w1 (wr.drewN nq) := f1.trans ((Frm.refl _ wr).drewN nq)
          cases q1 with
          | true =>
            go_wp2_with fail
            go_roundw
            case rel =>
              refine ⟨k + 1, by omega, by go_num, fun j hj hj2 hjk => ?_, f2⟩
              by_cases e : j = k
              · subst e; exact of_decide_eq_true HQ1.out
              · exact HB.out j hj hj2 (by omega)
            case measure => simp [intOf]; omega
          | false =>
            go_wp2_with fail
            go_ret
            refine ⟨?_, g0.trans f2⟩
            have hne : ¬ (l = m) := fun e => by
              subst e
              exact of_decide_eq_false HQ1.out rfl
            rw [decide_eq_false hne]; rfl
        · obtain rfl : k = l.length := by omega
          have hnot : ¬ ((l.length : Int) < (m.length : Int)) := by have := HL.out; omega
          go_wp2_with fail
          go_ret
          refine ⟨?_, g0.trans f1⟩
          have he : l = m := by
            apply List.ext_getElem HL.out
            intro j hj hj2
            exact HB.out j hj hj2 hj
          rw [decide_eq_true he]; rfl
    · have hli : ((l.length : Int) != (m.length : Int)) = true := by simp; omega
      have hne : ¬ (l = m) := fun e => hl (congrArg List.length e)
      have HN := Lib.hid hne
      clear hl hne
      go_wp2_with (first
        | ((with_reducible refine wpl_load rfl _ rfl ?_ lf ?_); (focus rfl))
        | ((with_reducible refine wpl_load rfl _ rfl ?_ lg ?_); (focus rfl)))
      go_ret
      exact ⟨by rw [decide_eq_false HN.out]; rfl, g0⟩
end Go.Proofs.Ytojbgckabifnjaa
end
section
namespace Go.Proofs.Ytojbgckabifnjaa
open Go.RowKit

theorem next_a : nextS8 (fun _ => 0) 0 = (f1, (0, 1), 0) := by
  have h := (nextS8_ok (f := fun _ => 0) (r := 0) (by decide)).2.2
  have hm : mx (fun _ => 0) 8 = 0 := by decide
  rw [h, hm]
  refine Prod.ext (funext fun k => ?_) rfl
  simp only [upd8, f1]
theorem drop_a : dropS (fun _ => 0) [] 0 [] = (f1, [], (0, 1), 0) := by
  have hok : okR (fun _ => 0) [] = true := by decide
  unfold dropS
  rw [hok, next_a]
  rfl
theorem write_a : writeS (fun _ => 0) [] 0 [] [97] = (f1, [sA], (0, 1), 0) := by
  unfold writeS
  rw [drop_a]
  rfl

theorem swrite_a (w : World) : Calls Try.prog 18 #[.agg rz, .int .u8 0, .slice none 0 0, .string ⟨#[97]⟩] w (RegTo (f1, [sA], (0, 1), 0) w) := by
  rw [← write_a]
  exact swrite_any (fun _ => 0) (.slice none 0 0) [] 0 (.slice none 0 0) [] [97] w (fun k _ => Nat.zero_lt_succ _) (OwnL.nil_ w).sl (by decide) (by decide) (Sl.ofRow (Row.nil_ w 2)) (by decide)
end Go.Proofs.Ytojbgckabifnjaa
end
