/- SortFunc of no sibling; an append of two lists. No condition. -/
import Derived.Test.YtojbgckabifnjaaSibN
import Derived.Test.YtojbgckabifnjaaSibO
section
namespace Go.Proofs.Ytojbgckabifnjaa
open Go.RowKit

set_option maxRecDepth 100000 in
set_option maxHeartbeats 2000000 in
theorem isort_nil (c : Value) (w : World) : Calls Try.prog 99 #[.slice none 0 0, .int .i64 0, .int .i64 0, c] w fun e w' => e = .returned (.tuple #[]) ∧ w = w' := by
  go_enter Try.func99, Try.ntmps99
  go_wp2_with fail
  go_loop [8] (fun i => i = .int .i64 1) (fun _ => 0)
  case atStart => rfl
  case round =>
    subst hrel
    go_wp2_with fail
    go_end0
    exact ⟨rfl, rfl⟩
set_option maxRecDepth 100000 in
set_option maxHeartbeats 2000000 in
theorem pdq_nil (lim : Int) (c : Value) (w : World) : Calls Try.prog 89 #[.slice none 0 0, .int .i64 0, .int .i64 0, .int .i64 lim, c] w fun e w' => e = .returned (.tuple #[]) ∧ w = w' := by
  have HI := Lib.hid (isort_nil c)
  go_enter Try.func89, Try.ntmps89
  go_wp2_with fail
  go_loop [1, 2] (fun a b => a = .int .i64 0 ∧ b = .int .i64 0) (fun _ _ => 0)
  case atStart => exact ⟨rfl, rfl⟩
  case round =>
    obtain ⟨rfl, rfl⟩ := hrel
    go_wp2_with fail
    refine (HI.out _).mono ?_
    rintro e w2 ⟨rfl, rfl⟩
    go_wp2_with fail
    refine bodyPost_ret (results_none rfl _ _ _) rfl ?_
    exact ⟨rfl, rfl⟩
set_option maxRecDepth 100000 in
set_option maxHeartbeats 2000000 in
theorem ssort_nil (c : Value) (w : World) : Calls Try.prog 66 #[.slice none 0 0, c] w fun e w' => e = .returned (.tuple #[]) ∧ w = w' := by
  have HP := Lib.hid (fun lim W => pdq_nil lim c W)
  have HL := Lib.hid (lenAny 0 w (by omega))
  go_enter Try.func66, Try.ntmps66
  go_wp2_with fail
  refine HL.out.mono ?_
  rintro e w1 ⟨⟨q, rfl⟩, rfl⟩
  go_wp2_with fail
  refine (HP.out _ _).mono ?_
  rintro e w2 ⟨rfl, rfl⟩
  go_wp2_with fail
  go_end0
  exact ⟨rfl, rfl⟩
end Go.Proofs.Ytojbgckabifnjaa
end
section
namespace Go.Proofs.Ytojbgckabifnjaa
open Go.RowKit

set_option maxRecDepth 100000 in
set_option maxHeartbeats 1000000 in
theorem same1_any (x y : SibI) (w : World) : Calls Try.prog 72 #[.agg #[.int .u8 x.r, .int .u32 x.n, .string (bs x.s)], .agg #[.int .u8 y.r, .int .u32 y.n, .string (bs y.s)]] w fun e w' => e = .returned (.bool (decide (x.d = y.d))) ∧ Frm (fun _ => False) w w' := by
  have E : ∀ W, (Op.equalIn 10000 27 (.agg (dv x.r x.n)) (.agg (dv y.r y.n))).run Try.prog W = .ok (decide (x.d = y.d)) W := fun W => by
    rw [run_eq_dot, ← dot_beq]; rfl
  generalize decide (x.d = y.d) = q at *
  go_enter Try.func72, Try.ntmps72
  go_wp2_with fail
  go_ret
  exact ⟨rfl, ((Frm.refl _ w).alloc _).alloc _⟩

/-- A sibling, out of a slice that is only read. -/
theorem SL.cells {w : World} {a : Option Addr} {cap : Nat} {l : List SibI} (h : SL w (.slice a l.length cap) l) (k : Nat) (hk : k < l.length) :
    ∃ g off, a = some ⟨g, off, none⟩ ∧ w.cell? ⟨g, off + k * 3, none⟩ = some (.int .u8 l[k].r) ∧ w.cell? ⟨g, off + k * 3 + 1, none⟩ = some (.int .u32 l[k].n) ∧ w.cell? ⟨g, off + k * 3 + 2, none⟩ = some (.string (bs l[k].s)) := by
  obtain ⟨g, off, rfl, _, hc⟩ := Sl.elem sibc sibc_len h k hk (by omega)
  exact ⟨g, off, rfl, hc 0 (by omega), by rw [Nat.add_assoc]; exact hc 1 (by omega), by rw [Nat.add_assoc]; exact hc 2 (by omega)⟩

set_option maxRecDepth 100000 in
set_option maxHeartbeats 2000000 in
theorem eqf_any (v1 v2 : Value) (l m : List SibI) (w : World) (h1 : SL w v1 l) (h2 : SL w v2 m) :
    Calls Try.prog 71 #[v1, v2, .func (.func 72) #[] #[]] w fun e w' => e = .returned (.bool (decide (l.map SibI.d = m.map SibI.d))) ∧ Frm (fun _ => False) w w' := by
  obtain ⟨a, cap, rfl, hc1, hc2⟩ := h1.slice
  obtain ⟨b, capb, rfl, hd1, hd2⟩ := h2.slice
  unfold maxLen at hc2 hd2
  obtain ⟨q, hq⟩ : ∃ q, decide (l.map SibI.d = m.map SibI.d) = q := ⟨_, rfl⟩
  rw [hq]
  have HQ := Lib.hid hq
  have HS := Lib.hid same1_any
  clear hq
  go_enter Try.func71, Try.ntmps71
  by_cases hl : l.length = m.length
  · have hli : ((l.length : Int) != (m.length : Int)) = false := by simp; omega
    have HL := Lib.hid hl
    clear hl
    go_wp2_with fail
    go_loopw [17] (fun i wr => ∃ k : Nat, k ≤ l.length ∧ i = .int .i64 k ∧ (∀ j (hj : j < l.length) (hj2 : j < m.length), j < k → l[j].d = m[j].d) ∧ Frm (fun _ => False) w wr) (fun i _ => l.length - (intOf i).toNat)
    case atStart => exact ⟨0, Nat.zero_le _, rfl, fun j _ _ h => by omega, Frm.refl _ _⟩
    case round =>
      obtain ⟨k, hk, rfl, hbef, f1⟩ := hrel
      have HB := Lib.hid hbef
      clear hbef
      by_cases hlt : k < l.length
      · have hlm : k < m.length := by rw [← HL.out]; exact hlt
        have hk0 : (0 : Int) ≤ (k : Int) := by omega
        have hki : (k : Int) < (l.length : Int) := by omega
        have hkm : (k : Int) < (m.length : Int) := by omega
        obtain ⟨g, off, rfl, x0, x1, x2⟩ := (h1.keepF f1).cells k hlt
        obtain ⟨g', off', rfl, y0, y1, y2⟩ := (h2.keepF f1).cells k hlm
        have f2 := (f1.alloc (.cells #[.int .u8 l[k].r, .int .u32 l[k].n, .string (bs l[k].s)] 76)).alloc (.cells #[.int .u8 m[k].r, .int .u32 m[k].n, .string (bs m[k].s)] 76)
        have y0' := ((Frm.refl (fun _ => False) wr).alloc (.cells #[.int .u8 l[k].r, .int .u32 l[k].n, .string (bs l[k].s)] 76)).cellF y0
        have y1' := ((Frm.refl (fun _ => False) wr).alloc (.cells #[.int .u8 l[k].r, .int .u32 l[k].n, .string (bs l[k].s)] 76)).cellF y1
        have y2' := ((Frm.refl (fun _ => False) wr).alloc (.cells #[.int .u8 l[k].r, .int .u32 l[k].n, .string (bs l[k].s)] 76)).cellF y2
        have HC := Lib.hid (HS.out l[k] m[k])
        obtain ⟨q1, hq1⟩ : ∃ q1, decide (l[k].d = m[k].d) = q1 := ⟨_, rfl⟩
        rw [hq1] at HC
        have HQ1 := Lib.hid hq1
        clear hq1
        go_wp2_with fail
        refine (HC.out _).mono ?_
        rintro e w3 ⟨rfl, f3⟩
        clear x0 x1 x2 y0 y1 y2 y0' y1' y2'
        cases q1 with
        | true =>
          go_wp2_with fail
          go_roundw
          case rel =>
            refine ⟨k + 1, by omega, by go_num, fun j hj hj2 hjk => ?_, f2.trans f3⟩
            by_cases e : j = k
            · subst e; exact of_decide_eq_true HQ1.out
            · exact HB.out j hj hj2 (by omega)
          case measure => simp [intOf]; omega
        | false =>
          go_wp2_with fail
          go_ret
          refine ⟨?_, f2.trans f3⟩
          have hne : ¬ (l.map SibI.d = m.map SibI.d) := fun e => by
            have h3 : (l.map SibI.d)[k]? = (m.map SibI.d)[k]? := by rw [e]
            simp [hlt, hlm] at h3
            exact of_decide_eq_false HQ1.out h3
          rw [← HQ.out, decide_eq_false hne]; rfl
      · obtain rfl : k = l.length := by omega
        go_wp2_with fail
        go_ret
        refine ⟨?_, f1⟩
        have he : l.map SibI.d = m.map SibI.d := by
          apply List.ext_getElem
          · simpa using HL.out
          · intro j hj hj2
            simp only [List.length_map] at hj hj2
            simp only [List.getElem_map]
            exact HB.out j hj hj2 hj
        rw [← HQ.out, decide_eq_true he]; rfl
  · have hli : ((l.length : Int) != (m.length : Int)) = true := by simp; omega
    have hne : ¬ (l.map SibI.d = m.map SibI.d) := fun e => hl (by have := congrArg List.length e; simpa using this)
    have HN := Lib.hid hne
    clear hl hne
    go_wp2_with fail
    go_ret
    exact ⟨by rw [← HQ.out, decide_eq_false HN.out]; rfl, Frm.refl _ _⟩

set_option maxRecDepth 100000 in
set_option maxHeartbeats 2000000 in
theorem same_any (f g : Nat → Nat) (v1 v2 : Value) (l m : List SibI) (w : World) (h1 : SL w v1 l) (h2 : SL w v2 m) :
    Calls Try.prog 32 #[rg f v1, rg g v2] w fun e w' => e = .returned (.bool (eq8 f g && decide (l.map SibI.d = m.map SibI.d))) ∧ Frm (fun _ => False) w w' := by
  have E := fEq f g (eq8 f g) rfl
  obtain ⟨a, cap, rfl, hc1, hc2⟩ := h1.slice
  obtain ⟨b, capb, rfl, hd1, hd2⟩ := h2.slice
  have g0 : Frm (fun _ => False) w ((w.alloc (.cells (rgc f (.slice a l.length cap)) 39)).alloc (.cells (rgc g (.slice b m.length capb)) 39)) := ((Frm.refl _ w).alloc _).alloc _
  have b0 : Blk ((w.alloc (.cells (rgc f (.slice a l.length cap)) 39)).alloc (.cells (rgc g (.slice b m.length capb)) 39)) w.heap.size 39 (rgc f (.slice a l.length cap)) := (Blk.alloc w _ _).old _
  have b1 : Blk ((w.alloc (.cells (rgc f (.slice a l.length cap)) 39)).alloc (.cells (rgc g (.slice b m.length capb)) 39)) (w.heap.size + 1) 39 (rgc g (.slice b m.length capb)) := Blk.at1 w _ _ _
  have HE := Lib.hid (eqf_any _ _ l m _ (h1.keepF g0) (h2.keepF g0))
  generalize eq8 f g = p at *
  generalize decide (l.map SibI.d = m.map SibI.d) = q at *
  go_enter Try.func32, Try.ntmps32
  go_upto_region 1 with fail
  generalize (w.alloc (.cells (rgc f (.slice a l.length cap)) 39)).alloc (.cells (rgc g (.slice b m.length capb)) 39) = w1 at *
  generalize w.heap.size = N at *
  have lf := load_ctx b0
  have lg := load_ctx b1
  have c8 := b0.cell 8 rfl
  have e8 := b1.cell 8 rfl
  cases p with
  | false =>
    go_wp2_with (first
      | ((with_reducible refine wpl_load rfl _ rfl ?_ lf ?_); (focus rfl))
      | ((with_reducible refine wpl_load rfl _ rfl ?_ lg ?_); (focus rfl)))
    go_ret
    exact ⟨rfl, g0⟩
  | true =>
    go_wp2_with (first
      | ((with_reducible refine wpl_load rfl _ rfl ?_ lf ?_); (focus rfl))
      | ((with_reducible refine wpl_load rfl _ rfl ?_ lg ?_); (focus rfl)))
    refine HE.out.mono ?_
    rintro e w2 ⟨rfl, f2⟩
    go_wp2_with fail
    go_ret
    exact ⟨by simp, g0.trans f2⟩
end Go.Proofs.Ytojbgckabifnjaa
end
