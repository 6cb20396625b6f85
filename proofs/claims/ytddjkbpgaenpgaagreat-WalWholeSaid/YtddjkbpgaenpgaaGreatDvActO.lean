/- What WalWhole notes: what is sure, and what may be instead; same, did, opened answer. No condition. -/
import Derived.Test.YtddjkbpgaenpgaaGreatLawWlFull
import Derived.Test.YtddjkbpgaenpgaaGreatInR
import Derived.Test.YtddjkbpgaenpgaaGreatDvS
import Derived.Test.YtddjkbpgaenpgaaGreatDvAct
section
namespace Go.Proofs.YtddjkbpgaenpgaaGreat
open Go.RowKit Go.Shelf

theorem OwnS.olt {w : World} {v : Value} {l : List (List UInt8)} (h : OwnS w v l) : ∀ k, v.ownBlock = some k → k < w.heap.size := fun k hk => by
  rcases h.2 with ⟨rfl, _⟩ | ⟨g, cap, rfl, _, _, ⟨o, ho, _⟩, _, _⟩
  · cases hk
  · cases hk
    exact (Array.getElem?_eq_some_iff.1 ho).1
set_option maxRecDepth 100000 in
set_option maxHeartbeats 4000000 in
theorem same14_any (v1 v2 : Value) (l m : List (List UInt8)) (w : World) (h1 : Strs w v1 l) (h2 : Strs w v2 m) :
    Calls Tryz.prog 97 #[v1, v2] w fun e w' => e = .returned (.bool (decide (l = m))) ∧ Frm (fun _ => False) w w' := by
  obtain ⟨a, cap, rfl, hc1, hc2⟩ := h1.slice
  unfold maxLen at hc2
  obtain ⟨a2, cap2, rfl, hd1, hd2⟩ := h2.slice
  unfold maxLen at hd2
  have H1 := Lib.hid h1
  have H2 := Lib.hid h2
  clear h1 h2
  by_cases hlen : l.length = m.length
  · have hq : ((l.length : Int) != (m.length : Int)) = false := by simp; omega
    have HLEN := Lib.hid hlen
    clear hlen
    go_enter Tryz.func97, Tryz.ntmps97
    go_wp2_with fail
    clear hq
    go_loopw [5] (fun i wr => ∃ k : Nat, k ≤ l.length ∧ i = .int .i64 k ∧ Frm (fun _ => False) w wr ∧ l.take k = m.take k) (fun i _ => l.length - (intOf i).toNat)
    case atStart => exact ⟨0, Nat.zero_le _, rfl, Frm.refl _ _, rfl⟩
    case round =>
      obtain ⟨k, hk, rfl, gr, ht⟩ := hrel
      have HT := Lib.hid ht
      clear ht
      by_cases hlt : k < l.length
      · have hlt2 : k < m.length := by have := HLEN.out; omega
        obtain ⟨g, off, rfl, _, c0⟩ := Strs.at (H1.out.keepF gr) k hlt
        obtain ⟨g2, off2, rfl, _, c1⟩ := Strs.at (H2.out.keepF gr) k hlt2
        have hki : (k : Int) < (l.length : Int) := by omega
        have hki2 : (k : Int) < (m.length : Int) := by omega
        obtain ⟨s, hs⟩ : ∃ s, l[k] = s := ⟨_, rfl⟩
        obtain ⟨t, hte⟩ : ∃ t, m[k] = t := ⟨_, rfl⟩
        rw [hs] at c0
        rw [hte] at c1
        have HST := Lib.hid (And.intro hs hte)
        clear hs hte
        by_cases hst : s = t
        · subst hst
          have hq : ((bs s).toList != (bs s).toList) = false := by simp
          go_wp2_with fail
          refine wp_region_canon (fun W => W.cell? ⟨g, off + k, none⟩ = some (.string (bs s)) ∧ W.cell? ⟨g2, off2 + k, none⟩ = some (.string (bs s)) ∧ Frm (fun _ => False) wr W) (by kernel_rfl) rfl (by kernel_rfl) (by kernel_rfl) (⟨c0, c1, (Frm.refl _ wr).drew⟩) ?_
          repeat' first
            | (refine CanonL.skip (by rfl) ?_; (try simp only [Act.put, List.setIfInBounds_toArray, List.set_cons_zero, List.set_cons_succ]))
            | (refine CanonL.val (v := ?_) (by rfl) ?_ ?_; rotate_left 1; (focus (intro w hSw; (try dsimp only at hSw); go_simp; (try (with_reducible rfl)); done)); (try simp only [Act.put, List.setIfInBounds_toArray, List.set_cons_zero, List.set_cons_succ]))
          refine CanonL.done ?_
          intro w9 hS9
          have G9 := Lib.hid (gr.trans hS9.2.2)
          clear hS9 c0 c1
          go_wp2_with fail
          go_roundw
          case rel => exact ⟨k + 1, by omega, by go_num, G9.out, by rw [List.take_succ_eq_append_getElem hlt, List.take_succ_eq_append_getElem hlt2, HT.out, HST.out.1, HST.out.2]⟩
          case measure => simp [intOf]; omega
        · have hq : ((bs s).toList == (bs t).toList) = false := by rw [bs_toList, bs_toList]; simpa using hst
          go_wp2_with fail
          refine wp_region_canon (fun W => W.cell? ⟨g, off + k, none⟩ = some (.string (bs s)) ∧ W.cell? ⟨g2, off2 + k, none⟩ = some (.string (bs t)) ∧ Frm (fun _ => False) wr W) (by kernel_rfl) rfl (by kernel_rfl) (by kernel_rfl) (⟨c0, c1, (Frm.refl _ wr).drew⟩) ?_
          repeat' first
            | (refine CanonL.skip (by rfl) ?_; (try simp only [Act.put, List.setIfInBounds_toArray, List.set_cons_zero, List.set_cons_succ]))
            | (refine CanonL.val (v := ?_) (by rfl) ?_ ?_; rotate_left 1; (focus (intro w hSw; (try dsimp only at hSw); go_simp; (try (with_reducible rfl)); done)); (try simp only [Act.put, List.setIfInBounds_toArray, List.set_cons_zero, List.set_cons_succ]))
          refine CanonL.done ?_
          intro w9 hS9
          have G9 := Lib.hid (gr.trans hS9.2.2)
          clear hS9 c0 c1
          go_wp2_with fail
          go_ret
          have hf : decide (l = m) = false := decide_eq_false (fun e => by
            subst e
            exact hst (HST.out.1.symm.trans HST.out.2))
          exact ⟨by rw [hf]; rfl, G9.out⟩
      · obtain rfl : k = l.length := by omega
        go_wp2_with fail
        go_ret
        have hT := HT.out
        rw [List.take_length, List.take_of_length_le (by have := HLEN.out; omega)] at hT
        have hf : decide (l = m) = true := decide_eq_true hT
        exact ⟨by rw [hf]; rfl, gr⟩
  · have hq : ((l.length : Int) != (m.length : Int)) = true := by simp; omega
    go_enter Tryz.func97, Tryz.ntmps97
    go_wp2_with fail
    go_ret
    have hf : decide (l = m) = false := decide_eq_false (fun e => hlen (by rw [e]))
    exact ⟨by rw [hf]; rfl, Frm.refl _ _⟩
/-- What may be instead, as it lies. -/
def MayM (w : World) (mv : Value) (Z : Nat → Prop) : Option (List (List UInt8)) → Prop
  | none => mv = .slice none 0 0
  | some l => ∃ b o c v, mv = .slice (some ⟨b, o, none⟩) 1 c ∧ 1 ≤ c ∧ c ≤ 9223372036854775807 ∧ b < w.heap.size ∧ ¬ Z b ∧ w.cell? ⟨b, o, none⟩ = some v ∧ OwnS w v l ∧ ∀ k, v.ownBlock = some k → ¬ Z k
/-- The story at block z, apart from the blocks Z. -/
def StoM (w : World) (z : Nat) (sure : List (List UInt8)) (may : Option (List (List UInt8))) (Z : Nat → Prop) : Prop :=
  ∃ sv mv, Blk w z 79 #[sv, mv] ∧ OwnS w sv sure ∧ (∀ k, sv.ownBlock = some k → ¬ Z k) ∧ MayM w mv Z may
section
variable {w w' : World} {z : Nat} {sure : List (List UInt8)} {may : Option (List (List UInt8))} {X Z Z' : Nat → Prop} {mv : Value}
theorem MayM.keep (h : MayM w mv Z may) (hf : Frm X w w') (hX : ∀ k, X k → Z k) : MayM w' mv Z may := by
  cases may with
  | none => exact h
  | some l =>
    obtain ⟨b, o, c, v, h1, hc, hc2, h2, h3, h4, h5, h6⟩ := h
    exact ⟨b, o, c, v, h1, hc, hc2, Nat.lt_of_lt_of_le h2 hf.size, h3, (World.cell?_of_block (a := ⟨b, o, none⟩) (hf.block b h2 (fun hx => h3 (hX b hx)))).trans h4, h5.keep hf (fun g hg hx => h6 g hg (hX g hx)), h6⟩
theorem MayM.zone (h : MayM w mv Z may) (hZ : ∀ k, k < w.heap.size → Z' k → Z k) : MayM w mv Z' may := by
  cases may with
  | none => exact h
  | some l =>
    obtain ⟨b, o, c, v, h1, hc, hc2, h2, h3, h4, h5, h6⟩ := h
    exact ⟨b, o, c, v, h1, hc, hc2, h2, fun hx => h3 (hZ b h2 hx), h4, h5, fun k hk hx => h6 k hk (hZ k (h5.olt k hk) hx)⟩
theorem StoM.keep (h : StoM w z sure may Z) (hf : Frm X w w') (hX : ∀ k, X k → Z k) (hz : ¬ X z) : StoM w' z sure may Z := by
  obtain ⟨sv, mv, h1, h2, h3, h4⟩ := h
  exact ⟨sv, mv, h1.keep hf hz, h2.keep hf (fun g hg hx => h3 g hg (hX g hx)), h3, h4.keep hf hX⟩
theorem StoM.keepF (h : StoM w z sure may Z) (hf : Frm (fun _ => False) w w') : StoM w' z sure may Z := h.keep hf (fun _ h => h.elim) (fun h => h)
theorem StoM.zone (h : StoM w z sure may Z) (hZ : ∀ k, k < w.heap.size → Z' k → Z k) : StoM w z sure may Z' := by
  obtain ⟨sv, mv, h1, h2, h3, h4⟩ := h
  exact ⟨sv, mv, h1, h2, fun k hk hx => h3 k hk (hZ k (h2.olt k hk) hx), h4.zone hZ⟩
theorem StoM.lt (h : StoM w z sure may Z) : z < w.heap.size := by
  obtain ⟨sv, mv, h1, _⟩ := h
  exact h1.lt
end
theorem Tryz.info60w : (Tryz.prog.info? 60).map (fun i => (i.zero, i.size, i.bytes)) = some (some (.slice none 0 0), 1, 24) := by kernel_rfl
theorem wl_one (w : World) (u : Value) : Sl (w.alloc (.cells #[u] 60)) 1 (.slice (some ⟨w.heap.size, 0, none⟩) 1 1) 1 [u] := by
  refine ⟨rfl, _, 1, rfl, Nat.le_refl _, by decide, .inr ⟨_, 0, rfl, by simp, fun j hj => ?_⟩⟩
  obtain rfl : j = 0 := by omega
  exact (Blk.alloc w 60 #[u]).cell 0 rfl
theorem wappend_l (w : World) (x u : Value) (hu : u.oneCell' = true) (hs : Sl w 1 x 1 [u]) :
    ∃ v' w', (Builtin.append_ #[77, 77] 77 #[.slice none 0 0, x]).run Tryz.prog w = .ok v' w' ∧ Row w' 1 v' 1 [u] ∧ w.grownBy w' (Value.slice none 0 0).ownBlock ∧ (∀ k, v'.ownBlock = some k → w.heap.size ≤ k) := by
  obtain ⟨i0, hi, hz0, hz1, hz2⟩ := info_parts Tryz.info60w
  obtain ⟨v', w', h1, h2, h3, h4⟩ := run_append_row w 77 77 77 60 i0 (.slice none 0 0) 1 24 Tryz.underlying77 hi hz0 hz1 hz2 rfl (Row.nil_ w 1) x 1 [u]
    (Sl.src hs Tryz.underlying77 (fun y hy => by rw [List.mem_singleton.1 hy]; exact hu)) (by decide) (by decide)
  exact ⟨v', w', h1, h2, h3, fun k hk => (h4 k hk).resolve_left (fun h => by cases h)⟩
set_option maxRecDepth 100000 in
set_option maxHeartbeats 4000000 in
theorem did_ok (z : Nat) (v : Value) (l sure : List (List UInt8)) (may : Option (List (List UInt8))) (Z : Nat → Prop) (w : World) (h : StoM w z sure may Z) (hz : Z z) (ho : OwnS w v l) (hv : ∀ k, v.ownBlock = some k → ¬ Z k) :
    Calls Tryz.prog 99 #[.pointer (some ⟨z, 0, none⟩), .int .i64 0, v] w fun e w' => e = .returned (.bool true) ∧ StoM w' z l may Z ∧ Frm (· = z) w w' := by
  obtain ⟨sv, mv, h1, h2, h3, h4⟩ := h
  obtain ⟨a, cap, hva, _, _⟩ := (OwnS.reads ho).slice
  have c0 := h1.cell 0 rfl
  have f0 := h1.free 0
  have hb := h1.set 0 v
  have gz : Frm (· = z) w (w.setCell ⟨z, 0, none⟩ v) := (Frm.refl (· = z) w).setCell (fun _ => rfl) _
  have HS : Hid (StoM (w.setCell ⟨z, 0, none⟩ v) z l may Z ∧ Frm (· = z) w (w.setCell ⟨z, 0, none⟩ v)) := Lib.hid ⟨⟨v, mv, hb, ho.keep gz (fun g hg e => hv g hg (e ▸ hz)), hv, h4.keep gz (fun k e => e ▸ hz)⟩, gz⟩
  subst hva
  clear h1 h2 h3 h4 hb gz ho hv
  go_enter Tryz.func99, Tryz.ntmps99
  go_wp2_with fail
  go_ret
  exact ⟨rfl, HS.out⟩
set_option maxRecDepth 100000 in
set_option maxHeartbeats 4000000 in
theorem did_err (z c : Nat) (v : Value) (l sure : List (List UInt8)) (Z : Nat → Prop) (w : World) (h : StoM w z sure none Z) (hc : c ≠ 0) (hz : Z z) (hZ : ∀ k, w.heap.size ≤ k → ¬ Z k) (ho : OwnS w v l) (hv : ∀ k, v.ownBlock = some k → ¬ Z k) :
    Calls Tryz.prog 99 #[.pointer (some ⟨z, 0, none⟩), .int .i64 (c : Nat), v] w fun e w' => e = .returned (.bool false) ∧ StoM w' z sure (some l) Z ∧ Frm (· = z) w w' := by
  obtain ⟨sv, mv, h1, h2, h3, h4⟩ := h
  obtain rfl : mv = .slice none 0 0 := h4
  obtain ⟨a, cap, hva, _, _⟩ := (OwnS.reads ho).slice
  have hcq : ((c : Int) == 0) = false := by rw [beq_eq_false_iff_ne]; omega
  have hu1 : v.oneCell' = true := by rw [hva]; rfl
  obtain ⟨v', w', hr, hrow, hg, hn⟩ := wappend_l _ _ v hu1 (wl_one w v)
  have gA : Frm (fun _ => False) w (w.alloc (.cells #[v] 60)) := (Frm.refl _ w).alloc _
  have gB : Frm (fun _ => False) (w.alloc (.cells #[v] 60)) w' := grownBy_none hg
  have gAB := gA.trans gB
  have k1 := h1.keep gA (fun h => h)
  have k2 := h1.keep gAB (fun h => h)
  have c1 := h1.cell 1 rfl
  have d1 := k2.cell 1 rfl
  have f1 := k2.free 1
  have hb := k2.set 1 v'
  have gz : Frm (· = z) w' (w'.setCell ⟨z, 1, none⟩ v') := (Frm.refl (· = z) w').setCell (fun _ => rfl) _
  have gall : Frm (· = z) w (w'.setCell ⟨z, 1, none⟩ v') := (gAB.mono fun _ _ h => h.elim).trans gz
  have hnw : ∀ k, v'.ownBlock = some k → w.heap.size ≤ k := fun k hk => Nat.le_trans gA.size (hn k hk)
  have hzl := h1.lt
  have HS : Hid (StoM (w'.setCell ⟨z, 1, none⟩ v') z sure (some l) Z ∧ Frm (· = z) w (w'.setCell ⟨z, 1, none⟩ v')) := by
    refine Lib.hid ⟨⟨sv, v', hb, h2.keep gall (fun g hg e => h3 g hg (e ▸ hz)), h3, ?_⟩, gall⟩
    rcases hrow.2 with ⟨_, h0⟩ | ⟨gb, capb, rfl, hcc1, hcc2, ⟨o, hob, _⟩, hcc, _⟩
    · cases h0
    · have hgb : w.heap.size ≤ gb := hnw gb rfl
      have hlt : gb < w'.heap.size := (Array.getElem?_eq_some_iff.1 hob).1
      unfold maxLen at hcc2
      refine ⟨gb, 0, capb, v, rfl, hcc1, by omega, Nat.lt_of_lt_of_le hlt gz.size, hZ gb hgb, ?_, ho.keep gall (fun g hg e => hv g hg (e ▸ hz)), hv⟩
      exact (World.cell?_of_block (a := ⟨gb, 0, none⟩) (gz.block gb hlt (by omega))).trans (hcc 0 (by decide))
  obtain ⟨a', cap', hve, _, _⟩ : ∃ a cap, v' = .slice a 1 cap ∧ True ∧ True := by
    rcases hrow.2 with ⟨_, h0⟩ | ⟨gb, capb, e, _⟩
    · cases h0
    · exact ⟨_, _, e, trivial, trivial⟩
  have HR := Lib.hid hr
  subst hve
  subst hva
  clear h1 h2 h3 hb gz ho hv hr hrow hg hn gA gB gAB k1 k2 gall hnw hzl hu1
  go_enter Tryz.func99, Tryz.ntmps99
  go_wp2_with (first | (at_builtin; refine Lib.wpList_append_run _ rfl _ _ _ _ rfl _ _ rfl rfl _ _ HR.out ?_) | fail)
  go_ret
  exact ⟨rfl, HS.out⟩
end Go.Proofs.YtddjkbpgaenpgaaGreat
end
section
namespace Go.Proofs.YtddjkbpgaenpgaaGreat
open Go.ChangeShapes Go.WideShapes Go.ChangeAt Go.RowKit Go.Deep
theorem ab_u8 {n : Int} (h : (Lit.int .u8 n).wf = true) : 0 ≤ n ∧ n ≤ 255 := by
  have h1 : IntKind.u8.min = 0 := by decide
  have h2 : IntKind.u8.max = 255 := by decide
  simp [Lit.wf, h1, h2] at h
  exact h
theorem ab_i64 {n : Int} (h : (Lit.int .i64 n).wf = true) : Z64 n := by
  have h1 : IntKind.i64.min = -9223372036854775808 := by decide
  have h2 : IntKind.i64.max = 9223372036854775807 := by decide
  simp [Lit.wf, h1, h2] at h
  exact h
section
variable {H : Type} {enc : TypeId × Value → H} {w : World} {base : Nat} {spare : Nat → Bool} {held : Bool}
/-- A slice of ints that came in. -/
theorem openZs {P : Program} {t e : TypeId} {fuel : Nat} {c : Value} {y : DataW H × List MemPlace} (ht : P.underlying t = some (.slice e)) (he : P.underlying e = some (.int .i64)) (hC : P.cellsOf e = 1)
    (h : DataW.trod enc P w base spare held fuel t [c] = some y) : ∃ l, Zs w c l ∧ ∀ z ∈ l, Z64 z := by
  rcases open_slice ht h with ⟨h0, _⟩ | ⟨a', len, cap, m, n', D, Pl, hcs, _, hl, hm, hmm, _, hi⟩
  · simp only [List.cons.injEq, and_true] at h0
    subst h0
    exact ⟨[], Sl.nil_ w 1 none 0 (by decide), by simp⟩
  · simp only [List.cons.injEq, and_true] at hcs
    subst hcs
    obtain ⟨L, hL, hp⟩ := listOf (p := fun i (x : Int) => ∃ b off, a' = ⟨b, off, none⟩ ∧ b < w.heap.size ∧ w.cell? ⟨b, off + i, none⟩ = some (.int .i64 x) ∧ Z64 x) len fun i hin => by
      have h00 : 0 < m := by rw [hmm]; split <;> omega
      obtain ⟨row0, hrow0, htrod0⟩ := hi 0 h00
      obtain ⟨_, _, hcell0⟩ := World.cells?_some hrow0
      have hc0 := hcell0 0 (by rw [hC]; omega)
      have him : i < m := by rw [hmm]; split <;> omega
      obtain ⟨row, hrow, htrod⟩ := hi i him
      obtain ⟨_, hlen, hcell⟩ := World.cells?_some hrow
      have hc := hcell 0 (by rw [hC]; omega)
      obtain ⟨x, e0, _, ws⟩ := DataW.trod_int he htrod
      obtain ⟨x0, e00, _, _⟩ := DataW.trod_int he htrod0
      rw [e00] at hc0
      obtain ⟨b, off, rfl, hb⟩ := addr_of_cell (a := a') (by simpa [Addr.add] using hc0)
      rw [e0, hC] at hc
      have hadd : ∀ (o j : Nat), (⟨b, o, none⟩ : Addr).add j = ⟨b, o + j, none⟩ := fun o j => by unfold Addr.add; split <;> simp_all
      rw [hadd, hadd, Nat.mul_one, Nat.add_zero] at hc
      exact ⟨x, b, off, rfl, hb, by rw [hc]; rfl, ab_i64 ws⟩
    subst hL
    refine ⟨L, ⟨by simp [zcs], some a', cap, rfl, hl, hm, ?_⟩, fun x hx => ?_⟩
    · rcases Nat.eq_zero_or_pos L.length with h0 | h0
      · exact .inl h0
      · obtain ⟨b, off, rfl, hb, _⟩ := hp 0 h0
        refine .inr ⟨b, off, rfl, hb, fun j hj => ?_⟩
        have hj2 : j < L.length := by omega
        obtain ⟨b', off', e, _, hc, _⟩ := hp j hj2
        cases e
        rw [hc, zcs_get L j hj2]
    · obtain ⟨j, hj, rfl⟩ := List.getElem_of_mem hx
      obtain ⟨_, _, _, _, _, hl2⟩ := hp j hj
      exact hl2
end
end Go.Proofs.YtddjkbpgaenpgaaGreat
end
