/- What an act makes of the history and of what is known; which errors it can have. Of no program but the acts' form. No condition. -/
import Derived.Test.YtojbgckabifnjaaSmC
import Derived.Test.YtojbgckabifnjaaHistK
import Derived.Test.YtojbgckabifnjaaSwB
section
namespace Go.Proofs.Ytojbgckabifnjaa
open Go.RowKit

/-- An act's event. -/
def evOf (x : SActI) (p q : Nat) (Dv : List DotI) : EvI := ⟨mkSib p q x.s, decide (x.k % 5 < 2), Dv⟩
/-- What is known at each replica behind an act. -/
def nextU (U : Nat → List EvI) (x : SActI) (p q : Nat) (Dv : List DotI) : Nat → List EvI :=
  if x.k % 5 < 3 then setF U (x.r % 4) (U (x.r % 4) ++ [evOf x p q Dv]) else setF U (x.r % 4) (bothK (U (x.r % 4)) (U (x.m % 4)))
theorem dropS_err {f : Nat → Nat} {l : List SibI} {r : Nat} {over : List DotI} (ho : okR f l = true) (hr : r < 4) (hm : mx f 8 < 65535) : (dropS f l r over).2.2.2 = 0 := by
  unfold dropS
  rw [ho, if_pos rfl]
  have hn : (nextS8 f r).2.2 = 0 := by
    unfold nextS8
    rw [if_neg (by omega), if_neg (by omega)]
  rw [if_pos hn]
theorem Hist.errs {E : List EvI} {F : Nat → Nat → Nat} {L : Nat → List SibI} (h : Hist E F L) {k : Nat} (hC : HistC E F k) (hk : k ≤ 40) {x : SActI} {f1 : Nat → Nat} {l1 : List SibI} {p q e0 : Nat} {Dv : List DotI} (ho : OneIs F L x f1 l1 p q Dv e0) : e0 = 0 ∨ e0 = 7 := by
  have hr : x.r % 4 < 4 := by omega
  have hj : x.m % 4 < 4 := by omega
  have hm := hC.top hr
  unfold OneIs at ho
  generalize x.r % 4 = r at *
  generalize x.m % 4 = j at *
  have hd := dropS_err (over := Dv) (h.ok r hr) hr (by omega)
  rcases ho with ⟨_, _, hw⟩ | ⟨_, _, hw⟩ | ⟨_, rfl, rfl, rfl, hw⟩
  · unfold writeS at hw
    rw [if_pos hd] at hw
    by_cases c : 8 ≤ (dropS (F r) (L r) r Dv).2.1.length
    · rw [if_pos c] at hw
      exact .inr (Prod.mk.inj (Prod.mk.inj (Prod.mk.inj hw).2).2).2.symm
    · rw [if_neg c] at hw
      exact .inl (Prod.mk.inj (Prod.mk.inj (Prod.mk.inj hw).2).2).2.symm
  · rw [hw] at hd
    exact .inl hd
  · unfold rjoinS at hw
    rw [if_pos (by rw [h.ok r hr, h.ok j hj]; rfl)] at hw
    by_cases c : 8 < (rstay (F r) (F j) (L r) (L j)).length
    · rw [if_pos c] at hw
      exact .inr (Prod.mk.inj (Prod.mk.inj hw).2).2.symm
    · rw [if_neg c] at hw
      exact .inl (Prod.mk.inj (Prod.mk.inj hw).2).2.symm
/-- What an act makes of all that is known. -/
theorem Hist.oneK {E : List EvI} {F : Nat → Nat → Nat} {L : Nat → List SibI} (h : Hist E F L) {k : Nat} (hC : HistC E F k) {U : Nat → List EvI} (hU : ∀ i, i < 4 → KnOf E (F i) (U i)) {x : SActI} {f1 : Nat → Nat} {l1 : List SibI} {p q : Nat} {Dv : List DotI} (ho : OneIs F L x f1 l1 p q Dv 0) :
    ∃ E', Hist E' (setF F (x.r % 4) f1) (setF L (x.r % 4) l1) ∧ HistC E' (setF F (x.r % 4) f1) (k + 1) ∧ ∀ i, i < 4 → KnOf E' (setF F (x.r % 4) f1 i) (nextU U x p q Dv i) := by
  have hr : x.r % 4 < 4 := by omega
  unfold OneIs at ho
  unfold nextU evOf
  generalize x.r % 4 = r at *
  rcases ho with ⟨hm, hD, hw⟩ | ⟨hm, hD, hw⟩ | ⟨hm, rfl, rfl, rfl, hw⟩
  · have h0 : (dropS (F r) (L r) r Dv).2.2.2 = 0 := by
      by_cases c : (dropS (F r) (L r) r Dv).2.2.2 = 0
      · exact c
      · unfold writeS at hw
        rw [if_neg c] at hw
        exact (Prod.mk.inj (Prod.mk.inj (Prod.mk.inj hw).2).2).2
    obtain ⟨h1, h2, h3, h4⟩ := dropS_ok h0
    unfold writeS at hw
    rw [if_pos h0, h4] at hw
    simp only at hw
    by_cases c : 8 ≤ ((L r).filter (fun x => !decide (x.d ∈ Dv))).length
    · rw [if_pos c] at hw
      exact absurd (Prod.mk.inj (Prod.mk.inj (Prod.mk.inj hw).2).2).2 (by decide)
    · rw [if_neg c] at hw
      obtain ⟨e1, hw⟩ := Prod.mk.inj hw
      obtain ⟨e2, hw⟩ := Prod.mk.inj hw
      obtain ⟨e3, _⟩ := Prod.mk.inj hw
      obtain ⟨e3, e4⟩ := Prod.mk.inj e3
      rw [mkSib_eq (show r < 256 by omega) (show mx (F r) 8 + 1 < 4294967296 by omega) x.hs] at e2
      rw [← e3, ← e4, mkSib_eq (show r < 256 by omega) (show mx (F r) 8 + 1 < 4294967296 by omega) x.hs, if_pos (by omega), decide_eq_true hm]
      have ha := h.act (is := true) hr (x0 := ⟨r, mx (F r) 8 + 1, x.s, by omega, by omega, x.hs⟩) rfl rfl h3 hD.2 rfl (by simp; omega)
      have hc := hC.act (is := true) (over := Dv) hr (x0 := ⟨r, mx (F r) 8 + 1, x.s, by omega, by omega, x.hs⟩) rfl rfl
      have hu := KnOf.act (is := true) (over := Dv) h hr (x0 := ⟨r, mx (F r) 8 + 1, x.s, by omega, by omega, x.hs⟩) rfl rfl h3 hU
      simp only [if_true] at ha
      rw [e1] at ha hc hu
      rw [e2] at ha
      exact ⟨_, ha, hc, hu⟩
  · have h0 : (dropS (F r) (L r) r Dv).2.2.2 = 0 := by rw [hw]
    obtain ⟨h1, h2, h3, h4⟩ := dropS_ok h0
    rw [h4] at hw
    obtain ⟨e1, hw⟩ := Prod.mk.inj hw
    obtain ⟨e2, hw⟩ := Prod.mk.inj hw
    obtain ⟨e3, _⟩ := Prod.mk.inj hw
    obtain ⟨e3, e4⟩ := Prod.mk.inj e3
    have hle : ((L r).filter (fun x => !decide (x.d ∈ Dv))).length ≤ 8 := Nat.le_trans (List.length_filter_le _ _) (h.few r hr)
    rw [← e3, ← e4, mkSib_eq (show r < 256 by omega) (show mx (F r) 8 + 1 < 4294967296 by omega) x.hs, if_pos (by omega), decide_eq_false (by omega)]
    have ha := h.act (is := false) hr (x0 := ⟨r, mx (F r) 8 + 1, x.s, by omega, by omega, x.hs⟩) rfl rfl h3 hD.2 rfl (by simpa using hle)
    have hc := hC.act (is := false) (over := Dv) hr (x0 := ⟨r, mx (F r) 8 + 1, x.s, by omega, by omega, x.hs⟩) rfl rfl
    have hu := KnOf.act (is := false) (over := Dv) h hr (x0 := ⟨r, mx (F r) 8 + 1, x.s, by omega, by omega, x.hs⟩) rfl rfl h3 hU
    simp only [Bool.false_eq_true, if_false, List.append_nil] at ha
    rw [e1] at ha hc hu
    rw [e2] at ha
    exact ⟨_, ha, hc, hu⟩
  · have hj : x.m % 4 < 4 := by omega
    rw [if_neg (by omega)]
    generalize x.m % 4 = j at *
    unfold rjoinS at hw
    rw [if_pos (by rw [h.ok r hr, h.ok j hj]; rfl)] at hw
    by_cases c2 : 8 < (rstay (F r) (F j) (L r) (L j)).length
    · rw [if_pos c2] at hw
      exact absurd (Prod.mk.inj (Prod.mk.inj hw).2).2 (by decide)
    · rw [if_neg c2] at hw
      obtain ⟨e1, hw⟩ := Prod.mk.inj hw
      obtain ⟨e2, _⟩ := Prod.mk.inj hw
      have ha := h.join hr hj (by omega)
      have hc := hC.join hr hj
      rw [e1, e2] at ha
      rw [e1] at hc
      refine ⟨_, ha, hc, fun i hi => ?_⟩
      by_cases c : i = r
      · subst c
        rw [setF_at, setF_at, ← e1]
        exact (hU i hr).both (hU j hj)
      · rw [setF_ne c, setF_ne c]
        exact hU i hi
end Go.Proofs.Ytojbgckabifnjaa
end
section
namespace Go.Proofs.Ytojbgckabifnjaa
open Go.RowKit

theorem run_eq_rdotd (d : Nat) (r n r' n' : Nat) (w : World) : (Op.equalIn (d + 2) 48 (.agg (dv r n)) (.agg (dv r' n'))).run Try.prog w = .ok (r == r' && n == n') w := by
  have u3 := Try.underlying22
  have a3 := Try.isAgg22
  have z3 := Try.sizeOf22
  have u5 := Try.underlying5
  have a5 := Try.isAgg5
  have z5 := Try.sizeOf5
  have hS : Try.prog.underlying 48 = some (.struct (Try.prog.fieldsOf 48)) := by kernel_rfl
  rw [run_equalIn_agg w (d + 1) 48 _ _ hS (by kernel_rfl)]
  simp only [Program.fieldsOf, Try.underlying48]
  go_simp
  simp only [Int.natCast_inj]
  by_cases h0 : r = r'
  case neg => simp [h0]
  by_cases h1 : n = n' <;> simp [h0, h1]
theorem run_eq_rdot (x y : DotI) (w : World) : (Op.equalIn 10000 48 (.agg (dv x.r x.n)) (.agg (dv y.r y.n))).run Try.prog w = .ok (decide (x = y)) w := by
  rw [show (10000 : Nat) = 9998 + 2 from rfl, run_eq_rdotd, dot_beq]
theorem run_eq_rsib (x y : SibI) (w : World) : (Op.equalIn 10000 105 (.agg #[.int .u8 x.r, .int .u32 x.n, .string (bs x.s)]) (.agg #[.int .u8 y.r, .int .u32 y.n, .string (bs y.s)])).run Try.prog w = .ok (x.r == y.r && x.n == y.n && (bs x.s).toList == (bs y.s).toList) w := by
  have u9 := Try.underlying9
  have a9 := Try.isAgg9
  have z9 := Try.sizeOf9
  have ad := Try.isAgg48
  have zd := Try.sizeOf48
  have hS : Try.prog.underlying 105 = some (.struct (Try.prog.fieldsOf 105)) := by kernel_rfl
  have hd := fun W => run_eq_rdotd 9997 x.r x.n y.r y.n W
  rw [show (10000 : Nat) = 9999 + 1 from rfl, run_equalIn_agg w 9999 105 _ _ hS (by kernel_rfl)]
  simp only [Program.fieldsOf, Try.underlying105]
  clear hS
  rw [show (9997 : Nat) + 2 = 9999 from rfl] at hd
  generalize hX : Op.equalIn 9999 48 = E at hd
  unfold Op.eqFields
  simp only [hX]
  have hd' : ∀ W, (E (.agg #[.int .u8 x.r, .int .u32 x.n]) (.agg #[.int .u8 y.r, .int .u32 y.n])).run Try.prog W = .ok (x.r == y.r && x.n == y.n) W := hd
  clear hd
  generalize (x.r == y.r && x.n == y.n) = p at *
  cases p
  · go_simp
  · go_simp
    by_cases h : (bs x.s).toList = (bs y.s).toList <;> simp [h]

theorem run_eq_rsibI (x y : SibI) (w : World) : (Op.equalIn 10000 105 (.agg #[.int .u8 x.r, .int .u32 x.n, .string (bs x.s)]) (.agg #[.int .u8 y.r, .int .u32 y.n, .string (bs y.s)])).run Try.prog w = .ok (decide (x = y)) w := by
  rw [run_eq_rsib, bs_toList, bs_toList]
  congr 1
  rw [Bool.eq_iff_iff]
  simp only [Bool.and_eq_true, beq_iff_eq, decide_eq_true_eq]
  exact ⟨fun h => SibI.ext' h.1.1 h.1.2 h.2, fun h => by subst h; exact ⟨⟨rfl, rfl⟩, rfl⟩⟩

set_option maxRecDepth 100000 in
set_option maxHeartbeats 1000000 in
theorem rless_any (r n r' n' : Nat) (w : World) :
    Calls Try.prog 57 #[.agg (dv r n), .agg (dv r' n')] w fun e w' => e = .returned (.bool (decide (n < n' ∨ n = n' ∧ r < r'))) ∧ Frm (fun _ => False) w w' := by
  have g0 : Frm (fun _ => False) w ((w.alloc (.cells (dv r n) 48)).alloc (.cells (dv r' n') 48)) := ((Frm.refl _ w).alloc _).alloc _
  have b0 : Blk ((w.alloc (.cells (dv r n) 48)).alloc (.cells (dv r' n') 48)) w.heap.size 48 (dv r n) := (Blk.alloc w _ _).old _
  have b1 : Blk ((w.alloc (.cells (dv r n) 48)).alloc (.cells (dv r' n') 48)) (w.heap.size + 1) 48 (dv r' n') := Blk.at1 w _ _ _
  go_enter Try.func57, Try.ntmps57
  go_upto_region 1 with fail
  generalize (w.alloc (.cells (dv r n) 48)).alloc (.cells (dv r' n') 48) = w1 at *
  generalize w.heap.size = N at *
  have c0 := b0.cell 0 rfl
  have c1 := b0.cell 1 rfl
  have d0 := b1.cell 0 rfl
  have d1 := b1.cell 1 rfl
  by_cases h1 : n < n'
  · have h1d : ¬ n' ≤ n := by omega
    have HA := Lib.hid (show decide (n < n' ∨ n = n' ∧ r < r') = true by rw [decide_eq_true_eq]; exact .inl h1)
    clear h1
    go_wp2
    go_ret
    exact ⟨by rw [HA.out]; rfl, g0⟩
  · by_cases h2 : n = n'
    · subst h2
      clear h1
      go_wp2
      go_ret
      exact ⟨rfl, g0⟩
    · have h2d : ((n : Int) == (n' : Int)) = false := by rw [beq_eq_false_iff_ne]; omega
      have h1d : n' ≤ n := by omega
      have HA := Lib.hid (show decide (n < n' ∨ n = n' ∧ r < r') = false by rw [decide_eq_false_iff_not]; omega)
      clear h1 h2
      go_wp2
      go_ret
      exact ⟨by rw [HA.out]; simp; omega, g0⟩

set_option maxRecDepth 100000 in
set_option maxHeartbeats 1000000 in
theorem rin_any (v : Value) (l : List DotI) (x : DotI) (w : World) (h : DL w v l) :
    Calls Try.prog 62 #[v, .agg (dv x.r x.n)] w fun e w' => e = .returned (.bool (decide (x ∈ l))) ∧ Frm (fun _ => False) w w' := by
  obtain ⟨a, cap, rfl, hc1, hc2⟩ := h.slice
  unfold maxLen at hc2
  have g0 : Frm (fun _ => False) w (w.alloc (.cells (dv x.r x.n) 48)) := (Frm.refl _ w).alloc _
  have b0 := Blk.alloc w 48 (dv x.r x.n)
  have h1 := h.keepF g0
  go_enter Try.func62, Try.ntmps62
  go_upto_region 2 with fail
  generalize w.alloc (.cells (dv x.r x.n) 48) = w1 at *
  generalize w.heap.size = A at *
  go_loopw [5] (fun i wr => ∃ k : Nat, k ≤ l.length ∧ i = .int .i64 k ∧ (∀ j (hj : j < l.length), j < k → l[j] ≠ x) ∧ Frm (fun _ => False) w1 wr) (fun i _ => l.length - (intOf i).toNat)
  case atStart => exact ⟨0, Nat.zero_le _, rfl, fun j _ h => by omega, Frm.refl _ _⟩
  case round =>
    obtain ⟨k, hk, rfl, hbef, f1⟩ := hrel
    have HB := Lib.hid hbef
    clear hbef
    by_cases hlt : k < l.length
    · have hk0 : (0 : Int) ≤ (k : Int) := by omega
      have hki : (k : Int) < (l.length : Int) := by omega
      obtain ⟨g, off, rfl, c0, c1⟩ := (h1.keepF f1).load k hlt
      have b1 := b0.keep f1 (fun h => h)
      have d0 := b1.cell 0 rfl
      have d1 := b1.cell 1 rfl
      have E : ∀ W, (Op.equalIn 10000 48 (.agg (dv l[k].r l[k].n)) (.agg (dv x.r x.n))).run Try.prog W = .ok (decide (l[k] = x)) W := fun W => run_eq_rdot _ _ W
      generalize hq : decide (l[k] = x) = q at *
      have HQ := Lib.hid hq
      clear hq b1
      go_upto_region 4 with fail
      go_quiet (fail)
      have f2 : Frm (fun _ => False) w1 (wr.drewN nq) := f1.trans ((Frm.refl _ wr).drewN nq)
      cases q with
      | true =>
        go_wp2_with fail
        go_ret
        have hx := of_decide_eq_true HQ.out
        have hin : decide (x ∈ l) = true := decide_eq_true (by rw [← hx]; exact List.getElem_mem hlt)
        exact ⟨by rw [hin]; rfl, g0.trans f2⟩
      | false =>
        go_wp2_with fail
        go_roundw
        case rel =>
          refine ⟨k + 1, by omega, by go_num, fun j hj hjk => ?_, f2⟩
          by_cases e : j = k
          · subst e; exact of_decide_eq_false HQ.out
          · exact HB.out j hj (by omega)
        case measure => simp [intOf]; omega
    · obtain rfl : k = l.length := by omega
      have hn : x ∉ l := fun h => by
        obtain ⟨j, hj, e⟩ := List.getElem_of_mem h
        exact absurd e (HB.out j hj hj)
      have HN := Lib.hid hn
      clear hn
      go_wp2_with fail
      go_ret
      exact ⟨by rw [decide_eq_false HN.out]; rfl, g0.trans f1⟩
end Go.Proofs.Ytojbgckabifnjaa
end
