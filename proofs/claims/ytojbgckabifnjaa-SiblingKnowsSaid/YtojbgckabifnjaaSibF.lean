/- What Drop answers. Of any register, any dots. No condition but that they aren't too long to be slices. -/
import Derived.Test.YtojbgckabifnjaaSibE
import Derived.Test.YtojbgckabifnjaaLawVJoins
namespace Go.Proofs.Ytojbgckabifnjaa
open Go.RowKit

set_option maxHeartbeats 1000000 in
/-- What wants a dot that isn't among others. -/
theorem drop1_any (b : Nat) (v : Value) (l : List DotI) (x : SibI) (w : World) (hb : Blk w b 40 #[v]) (h : DL w v l) :
    Calls Try.prog 59 (#[.agg (dv x.r x.n)] ++ #[.pointer (some ⟨b, 0, none⟩)]) w fun e w' => e = .returned (.bool (!decide (x.d ∈ l))) ∧ Frm (fun _ => False) w w' := by
  have g0 : Frm (fun _ => False) w (w.alloc (.cells (dv x.r x.n) 27)) := (Frm.refl _ w).alloc _
  have b0 := Blk.alloc w 27 (dv x.r x.n)
  have d0 := b0.cell 0 rfl
  have d1 := b0.cell 1 rfl
  have c0 := (hb.keep g0 (fun h => h)).cell 0 rfl
  have HX := Lib.hid (dcontains_any v l x.d _ (h.keepF g0))
  generalize decide (x.d ∈ l) = q at *
  obtain ⟨a, cap, rfl, hc1, hc2⟩ := h.slice
  clear b0 hb h
  show Calls Try.prog 59 #[.agg (dv x.r x.n), .pointer (some ⟨b, 0, none⟩)] w _
  go_enter Try.func59, Try.ntmps59
  go_wp2_with fail
  refine HX.out.mono ?_
  rintro e w2 ⟨rfl, f2⟩
  cases q
  all_goals
    go_wp2_with fail
    go_ret
    exact ⟨rfl, g0.trans f2⟩

/-- What Drop answers: an error's number, or the context, the siblings that stay, and the dot. -/
def dropS (f : Nat → Nat) (l : List SibI) (r : Nat) (over : List DotI) : (Nat → Nat) × List SibI × (Nat × Nat) × Nat :=
  if okR f l then (if (nextS8 f r).2.2 = 0 then ((nextS8 f r).1, l.filter (fun x => !decide (x.d ∈ over)), (nextS8 f r).2.1, 0) else (fun _ => 0, [], (0, 0), (nextS8 f r).2.2)) else (fun _ => 0, [], (0, 0), 4)
/-- A register, a dot, an error, as a call answers them: the siblings in memory of the call's own. -/
def RegTo (s : (Nat → Nat) × List SibI × (Nat × Nat) × Nat) (w : World) (e : Ending) (w' : World) : Prop :=
  ∃ v', e = .returned (.tuple #[rg s.1 v', .agg (dv s.2.2.1.1 s.2.2.1.2), .int .i64 s.2.2.2]) ∧ OwnL w' v' s.2.1 ∧ (∀ g, v'.ownBlock = some g → w.heap.size ≤ g) ∧ Frm (fun _ => False) w w'

theorem wpOp_plain0 {ops : Array Oper} {Q : Exit → Act → World → Prop} {K : Act → World → Prop} {i : Nat} {o : Oper} {a : Act} {w : World} (hi : ops[i]? = some o) (hg : o.guard = none) (h : ∀ K' : Act → World → Prop, (∀ a w, K a w → K' a w) → o.wp Try.prog a w K' Q) : wpOp Try.prog ops Q i K a w := by
  unfold wpOp
  simp only [hi]
  rw [if_pos (by unfold Region.wanted; rw [hg])]
  exact .inl (h K fun _ _ h => h)
theorem rcells {w : World} {b : Nat} {f : Nat → Nat} {v : Value} (h : Blk w b 39 (rgc f v)) : ∀ k, k < 8 → w.cell? ⟨b, k, none⟩ = some (.int .u32 (f k)) := fun k hk => by
  rcases lt8 hk with rfl | rfl | rfl | rfl | rfl | rfl | rfl | rfl <;> exact h.cell _ rfl
/-- No register's cells. -/
abbrev rz : Array Value := #[.int .u32 0, .int .u32 0, .int .u32 0, .int .u32 0, .int .u32 0, .int .u32 0, .int .u32 0, .int .u32 0, .slice none 0 0]
theorem rg_one (f : Nat → Nat) (a : Option Addr) (n c : Nat) : (rgc f (.slice a n c)).all (·.oneCell') = true := by simp [Value.oneCell']
set_option maxRecDepth 100000 in
set_option maxHeartbeats 8000000 in
theorem drop_any (f : Nat → Nat) (v : Value) (l : List SibI) (r : Nat) (vo : Value) (over : List DotI) (w : World) (hf : Fit8 f) (h : SL w v l) (hb : l.length ≤ 1000000) (hr : r < 256) (ho : DL w vo over) :
    Calls Try.prog 26 #[rg f v, .int .u8 r, vo] w (RegTo (dropS f l r over) w) := by
  have HD := Lib.hid (show dropS f l r over = if okR f l then (if (nextS8 f r).2.2 = 0 then ((nextS8 f r).1, l.filter (fun x => !decide (x.d ∈ over)), (nextS8 f r).2.1, 0) else (fun _ => 0, [], (0, 0), (nextS8 f r).2.2)) else (fun _ => 0, [], (0, 0), 4) from rfl)
  generalize dropS f l r over = D at *
  obtain ⟨ao, capo, rfl, ho1, ho2⟩ := ho.slice
  have g0 : Frm (fun _ => False) w ((((w.alloc (.cells (rgc f v) 39)).alloc (.cells #[.slice ao over.length capo] 40)).alloc (.cells rz 39)).alloc (.cells dz 27)) := ((((Frm.refl _ w).alloc _).alloc _).alloc _).alloc _
  have b0 : Blk ((((w.alloc (.cells (rgc f v) 39)).alloc (.cells #[.slice ao over.length capo] 40)).alloc (.cells rz 39)).alloc (.cells dz 27)) w.heap.size 39 (rgc f v) := (((Blk.alloc w _ _).old _).old _).old _
  have b1 : Blk ((((w.alloc (.cells (rgc f v) 39)).alloc (.cells #[.slice ao over.length capo] 40)).alloc (.cells rz 39)).alloc (.cells dz 27)) (w.heap.size + 1) 40 #[.slice ao over.length capo] := ((Blk.at1 w _ _ _).old _).old _
  have b2 : Blk ((((w.alloc (.cells (rgc f v) 39)).alloc (.cells #[.slice ao over.length capo] 40)).alloc (.cells rz 39)).alloc (.cells dz 27)) (w.heap.size + 1 + 1) 39 rz := (Blk.at2 w _ _ _ _).old _
  have b3 : Blk ((((w.alloc (.cells (rgc f v) 39)).alloc (.cells #[.slice ao over.length capo] 40)).alloc (.cells rz 39)).alloc (.cells dz 27)) (w.heap.size + 1 + 1 + 1) 27 dz := by
    have := Blk.alloc (((w.alloc (.cells (rgc f v) 39)).alloc (.cells #[.slice ao over.length capo] 40)).alloc (.cells rz 39)) 27 dz
    simpa using this
  go_enter Try.func26, Try.ntmps26
  go_upto_region 1 with fail
  generalize (((w.alloc (.cells (rgc f v) 39)).alloc (.cells #[.slice ao over.length capo] 40)).alloc (.cells rz 39)).alloc (.cells dz 27) = w0 at *
  obtain ⟨N, hN⟩ : ∃ N, w.heap.size = N := ⟨_, rfl⟩
  have HN := Lib.hid hN
  rw [hN] at b0 b1 b2 b3 ⊢
  clear hN
  have lR := load_reg b0
  have HC := Lib.hid (check_any f v l w0 hf (h.keepF g0) hb)
  go_wp2_with ((with_reducible refine wpl_load rfl _ rfl ?_ lR ?_); (focus rfl))
  refine HC.out.mono ?_
  rintro e w1 ⟨rfl, g1⟩
  clear lR HC
  have b0 := b0.keep g1 (fun h => h)
  have b1 := b1.keep g1 (fun h => h)
  have b2 := b2.keep g1 (fun h => h)
  have b3 := b3.keep g1 (fun h => h)
  have k1 := g0.trans g1
  clear g0 g1
  cases hok : okR f l with
  | false =>
    have hck : chkS f l = 4 := by unfold chkS; rw [hok]; rfl
    rw [hck]
    have hDe : D = (fun _ => 0, [], (0, 0), 4) := by rw [HD.out, hok]; rfl
    subst hDe
    clear hck hok
    go_wp2_with (first
      | ((with_reducible refine wpl_store_blk rfl 39 _ _ rfl (N + 1 + 1) rz rz ?_ ?_ b2 rfl ?_ ?_ ?_); (focus rfl); (focus rfl); (focus (show _ = some 9; kernel_rfl)); (focus (simp [Value.oneCell'])); intro w2 e2 g2 z2; have d3 := b3.keep g2 (by omega))
      | ((with_reducible refine wpl_store_dot rfl _ _ rfl (N + 1 + 1 + 1) 0 0 dz ?_ ?_ d3 rfl ?_); (focus rfl); (focus rfl); intro w3 e3 g3 z3; have h2 := e2.keep g3 (by omega); have c8 := h2.cell 8 rfl; have h2 := rcells (show Blk _ _ _ (rgc (fun _ => 0) (.slice none 0 0)) from h2); have d0 := e3.cell 0 rfl; have d1 := e3.cell 1 rfl))
    refine bodyPost_ret (v := .tuple #[rg (fun _ => 0) (.slice none 0 0), .agg (dv 0 0), .int .i64 4]) (by simp [results, Try.results26, go_sem, h2, c8, d0, d1]) rfl ?_
    exact ⟨_, rfl, OwnL.nil_ _, (fun g hg => by cases hg), (k1.next g2 (fun k hk h => by have := HN.out; omega)).next g3 (fun k hk h => by have := HN.out; omega)⟩
  | true =>
    have hck : chkS f l = 0 := by unfold chkS; rw [hok]; rfl
    rw [hck]
    clear hck
    have lC := load_ctx b0
    have NX := fNext f r hf hr
    have hDe : D = if (nextS8 f r).2.2 = 0 then ((nextS8 f r).1, l.filter (fun x => !decide (x.d ∈ over)), (nextS8 f r).2.1, 0) else (fun _ => 0, [], (0, 0), (nextS8 f r).2.2) := by rw [HD.out, hok]; rfl
    generalize nextS8 f r = X at *
    obtain ⟨vn, ⟨p, q⟩, e0⟩ := X
    simp only at NX hDe
    have HDE := Lib.hid hDe
    clear hDe hok HD
    go_wp2_with ((with_reducible refine wpl_load rfl _ rfl ?_ lC ?_); (focus rfl))
    refine (NX.out _).mono ?_
    rintro e w2 ⟨rfl, g2⟩
    clear lC NX
    have b0 := b0.keep g2 (fun h => h)
    have b1 := b1.keep g2 (fun h => h)
    have b2 := b2.keep g2 (fun h => h)
    have b3 := b3.keep g2 (fun h => h)
    have hb3 := b3.lt
    have k2 := k1.trans g2
    clear k1 g2
    have n7 : Blk ((w2.alloc (.cells vz 24)).alloc (.cells dz 27)) w2.heap.size 24 vz := (Blk.alloc w2 _ _).old _
    have n8 : Blk ((w2.alloc (.cells vz 24)).alloc (.cells dz 27)) (w2.heap.size + 1) 27 dz := Blk.at1 w2 _ _ _
    have m1 : Frm (fun _ => False) w2 ((w2.alloc (.cells vz 24)).alloc (.cells dz 27)) := ((Frm.refl _ w2).alloc _).alloc _
    go_upto_region 5 with (first
      | ((with_reducible refine wpl_store_vec rfl _ _ rfl w2.heap.size vn vz ?_ ?_ n7 rfl ?_); (focus rfl); (focus rfl); intro w11 e7 g3 z2; have m8 := n8.keep g3 (by omega); have m2 := m1.next (X := fun _ => False) g3 (fun k hk h => by omega))
      | ((with_reducible refine wpl_store_dot rfl _ _ rfl (w2.heap.size + 1) p q dz ?_ ?_ m8 rfl ?_); (focus rfl); (focus rfl); intro w4 e8 g4 z3; have e7' := e7.keep g4 (by omega); have m3 := m2.next (X := fun _ => False) g4 (fun k hk h => by omega)))
    have b0 := b0.keep m3 (fun h => h)
    have b1 := b1.keep m3 (fun h => h)
    have b2 := b2.keep m3 (fun h => h)
    have b3 := b3.keep m3 (fun h => h)
    have k3 := k2.trans m3
    have hlt3 := (b3.keep (Frm.refl (fun _ => False) _) (fun h => h)).lt
    obtain ⟨B, hB⟩ : ∃ B, w2.heap.size = B := ⟨_, rfl⟩
    have hNB : N + 4 ≤ B := by have := hb3; omega
    have e8'lt := e8.lt
    rw [hB] at e7' e8 e8'lt ⊢
    clear n7 n8 m1 e7 g3 z2 m8 m2 g4 z3 m3 hB k2 hlt3
    by_cases h0 : e0 = 0
    · subst h0
      have hDe : D = (vn, l.filter (fun x => !decide (x.d ∈ over)), (p, q), 0) := by rw [HDE.out, if_pos rfl]
      subst hDe
      have hwant := fun (x : SibI) (W : World) (hW : Frm (fun _ => False) w4 W) => drop1_any (N + 1) _ over x W (b1.keep hW (fun h => h)) ((ho.keepF k3).keepF hW)
      have HT := Lib.hid (those_any f v l 59 #[.pointer (some ⟨N + 1, 0, none⟩)] (fun x => !decide (x.d ∈ over)) w4 (h.keepF k3) hb (enters_of Try.func59 (by kernel_rfl) rfl) hwant)
      have lR := load_reg b0
      generalize l.filter (fun x => !decide (x.d ∈ over)) = l2 at *
      clear hwant
      go_upto_region 8 with ((with_reducible refine wpl_load rfl _ rfl ?_ lR ?_); (focus rfl))
      refine HT.out.mono ?_
      rintro e w5 ⟨v5, rfl, o5, g5, n5⟩
      obtain ⟨a5, c5, rfl, _, _⟩ := Row.slice o5
      clear lR HT
      have b2 := b2.keep g5 (fun h => h)
      have b3 := b3.keep g5 (fun h => h)
      have e7 := e7'.keep g5 (fun h => h)
      have e8 := e8.keep g5 (fun h => h)
      have k5 := k3.trans g5
      have hs5 := k3.size
      have hb5 : B + 1 < w4.heap.size := e8'lt
      clear b0 b1 e7' g5 k3
      go_upto_region 8 with fail
      refine wp_region_held_drew (S := fun w' : World => (Instr.loadAt 24 (.pointer (some ⟨B, 0, none⟩))).run Try.prog w' = .ok (.agg (vv vn)) w' ∧ (Instr.loadAt 27 (.pointer (some ⟨B + 1, 0, none⟩))).run Try.prog w' = .ok (.agg (dv p q)) w' ∧ Frm (fun k => k = N + 1 + 1 ∨ k = N + 1 + 1 + 1) w5 w') (by kernel_rfl) ⟨load_vec e7.drew, load_dotB e8.drew, (Frm.refl _ w5).drew⟩ (fun hHeld => ?_)
      refine wpAnyH_take (i := 0) (v := .agg (vv vn)) rfl (by kernel_rfl) (by kernel_rfl) (by kernel_rfl) (fun _ _ _ h => h) ?z0 (by assumption) ?_
      case z0 => (refine yieldsIf_load (by rfl) _ (by rfl) ?_ (fun w hs => hs.1); rfl)
      try simp only [Act.put, List.getElem_toArray, List.getElem_cons_zero, List.setIfInBounds_toArray, List.set_cons_zero, List.set_cons_succ]
      refine wpAnyH_take (i := 1) (v := ?_) rfl (by kernel_rfl) (by kernel_rfl) (by kernel_rfl) (fun _ _ _ h => h) ?z1 (by assumption) ?_
      case z1 => exact Or.inl ⟨by rfl, by (intro w hSw; go_simp; (try (with_reducible rfl)))⟩
      try simp only [Act.put, List.getElem_toArray, List.getElem_cons_zero, List.getElem_cons_succ, List.setIfInBounds_toArray, List.set_cons_zero, List.set_cons_succ]
      refine wpAnyH_take (i := 2) (v := ?_) rfl (by kernel_rfl) (by kernel_rfl) (by kernel_rfl) (fun _ _ _ h => h) ?z2 (by assumption) ?_
      case z2 => exact Or.inl ⟨by rfl, by (intro w hSw; go_simp; (try (with_reducible rfl)))⟩
      try simp only [Act.put, List.getElem_toArray, List.getElem_cons_zero, List.getElem_cons_succ, List.setIfInBounds_toArray, List.set_cons_zero, List.set_cons_succ]
      refine wpAnyH_take (i := 3) (v := .agg (dv p q)) rfl (by kernel_rfl) (by kernel_rfl) (by kernel_rfl) (fun _ _ _ h => h) ?z3 (by assumption) ?_
      case z3 => (refine yieldsIf_load (by rfl) _ (by rfl) ?_ (fun w hs => hs.2.1); rfl)
      try simp only [Act.put, List.getElem_toArray, List.getElem_cons_zero, List.getElem_cons_succ, List.setIfInBounds_toArray, List.set_cons_zero, List.set_cons_succ]
      clear hHeld
      refine seq_stores (i := 4) (j := 5) (k := 6) rfl rfl rfl rfl rfl rfl (by kernel_rfl) (by kernel_rfl) (by kernel_rfl) (by kernel_rfl)
        39 _ _ rfl (N + 1 + 1) (rgc vn (.slice a5 l2.length c5)) rz rfl rfl 27 _ _ rfl (N + 1 + 1 + 1) (dv p q) dz rfl rfl
        b2.drew rfl (by show _ = some 9; kernel_rfl) (rg_one _ _ _ _) b3.drew rfl (by show _ = some 2; kernel_rfl) (by simp [Value.oneCell']) (by omega) ?hS ?hK
      case hS =>
        intro w6 f6
        exact ⟨load_vec (e7.drew.keep f6 (by omega)), load_dotB (e8.drew.keep f6 (by omega)), (Frm.refl _ w5).drew.trans f6⟩
      case hK =>
        intro w6 c2 c3 f6 _
        have hS6 : (Instr.loadAt 24 (.pointer (some ⟨B, 0, none⟩))).run Try.prog w6 = .ok (.agg (vv vn)) w6 ∧ (Instr.loadAt 27 (.pointer (some ⟨B + 1, 0, none⟩))).run Try.prog w6 = .ok (.agg (dv p q)) w6 ∧ Frm (fun k => k = N + 1 + 1 ∨ k = N + 1 + 1 + 1) w5 w6 := ⟨load_vec (e7.drew.keep f6 (by omega)), load_dotB (e8.drew.keep f6 (by omega)), (Frm.refl _ w5).drew.trans f6⟩
        refine wpOp_plain0 rfl rfl (fun K' hK' => ?_)
        unfold Oper.wp execOp
        go_simp
        refine hK' _ _ ⟨hS6, ?_⟩
        clear hK' hS6 K'
        have k6 : Frm (fun _ => False) w w6 := k5.next ((Frm.refl _ w5).drew.trans f6) (fun k hk h => by have := HN.out; omega)
        have c8 := c2.cell 8 rfl
        have h2 := rcells c2
        have d0 := c3.cell 0 rfl
        have d1 := c3.cell 1 rfl
        have o6 := o5.keep ((Frm.refl (fun q => q = N + 1 + 1 ∨ q = N + 1 + 1 + 1) w5).drew.trans f6) (fun g e => by have := n5 g e; have := hb5; omega)
        try simp only [Act.put, List.getElem_toArray, List.getElem_cons_zero, List.getElem_cons_succ, List.setIfInBounds_toArray, List.set_cons_zero, List.set_cons_succ]
        go_wp2_with fail
        refine bodyPost_ret (v := .tuple #[rg vn (.slice a5 l2.length c5), .agg (dv p q), .int .i64 0]) (by simp [results, Try.results26, go_sem, h2, c8, d0, d1]) rfl ?_
        exact ⟨_, rfl, o6, (fun g e => by have := n5 g e; have := hb5; omega), k6⟩
    · have hDe : D = (fun _ => 0, [], (0, 0), e0) := by rw [HDE.out, if_neg h0]
      subst hDe
      have h0i : ((e0 : Int) != 0) = true := by simp; exact h0
      clear h0
      go_wp2_with (first
        | ((with_reducible refine wpl_store_blk rfl 39 _ _ rfl (N + 1 + 1) rz rz ?_ ?_ b2 rfl ?_ ?_ ?_); (focus rfl); (focus rfl); (focus (show _ = some 9; kernel_rfl)); (focus (simp [Value.oneCell'])); intro w2 e2 g2 z2; have d3 := b3.keep g2 (by omega))
        | ((with_reducible refine wpl_store_dot rfl _ _ rfl (N + 1 + 1 + 1) 0 0 dz ?_ ?_ d3 rfl ?_); (focus rfl); (focus rfl); intro w3 e3 g3 z3; have h2 := e2.keep g3 (by omega); have c8 := h2.cell 8 rfl; have h2 := rcells (show Blk _ _ _ (rgc (fun _ => 0) (.slice none 0 0)) from h2); have d0 := e3.cell 0 rfl; have d1 := e3.cell 1 rfl))
      refine bodyPost_ret (v := .tuple #[rg (fun _ => 0) (.slice none 0 0), .agg (dv 0 0), .int .i64 e0]) (by simp [results, Try.results26, go_sem, h2, c8, d0, d1]) rfl ?_
      exact ⟨_, rfl, OwnL.nil_ _, (fun g hg => by cases hg), (k3.next g2 (fun k hk h => by have := HN.out; omega)).next g3 (fun k hk h => by have := HN.out; omega)⟩
end Go.Proofs.Ytojbgckabifnjaa

