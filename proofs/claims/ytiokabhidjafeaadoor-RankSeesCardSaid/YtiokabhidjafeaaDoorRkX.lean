/- The document's groups. No condition. -/
import Derived.Test.YtiokabhidjafeaaDoorRkW
import Derived.Test.YtiokabhidjafeaaDoorRkN
import Derived.BigQuiet
import Derived.Deep.RegionLaw
namespace Go.Proofs.YtiokabhidjafeaaDoor
open Go.RowKit Go.Shelf

theorem Tryd.info44 : (Tryd.prog.info? 44).map (fun i => (i.zero, i.size, i.bytes)) = some (some (.agg #[.string ⟨#[]⟩, .slice none 0 0]), 2, 40) := by kernel_rfl
theorem append_rgrps (w : World) (v x : Value) (P Q : List (GrpI × Value)) (h : Row w 2 v P.length (flat grc P)) (hs : Sl w 2 x Q.length (flat grc Q)) (h1 : ∀ u ∈ flat grc Q, u.oneCell' = true) (hb : P.length + Q.length ≤ 1000000) :
    ∃ v' w', (Builtin.append_ #[33, 33] 33 #[v, x]).run Tryd.prog w = .ok v' w' ∧ Row w' 2 v' (P ++ Q).length (flat grc (P ++ Q)) ∧ w.grownBy w' v.ownBlock ∧ (∀ g, v'.ownBlock = some g → v.ownBlock = some g ∨ w.heap.size ≤ g) := by
  obtain ⟨i0, hi, hz0, hz1, hz2⟩ := info_parts Tryd.info44
  obtain ⟨v', w', h1, h2, h3, h4⟩ := run_append_row w 33 33 33 44 i0 (.agg #[.string ⟨#[]⟩, .slice none 0 0]) 2 40 Tryd.underlying33 hi hz0 hz1 hz2 rfl h x Q.length (flat grc Q)
    (Sl.src hs Tryd.underlying33 h1) (by unfold maxLen; omega) (by omega)
  exact ⟨v', w', h1, by rw [List.length_append, flat_append]; exact h2, h3, h4⟩
/-- The document's Groups' answer. -/
def RgTo (L : List GrpI) (w : World) (e : Ending) (w' : World) : Prop := ∃ u P, e = .returned u ∧ GrO w.heap.size w' u P ∧ P.map Prod.fst = L ∧ Frm (fun _ => False) w w'
section
variable {P : Program} {ops : Array Oper} {Q : Exit → Act → World → Prop}
theorem wpTail.consH {r m : Nat} {a : Act} {w : World} {o : Oper} (hi : ops[r]? = some o) (hw : Region.wanted o (yielded ops a.tmps) = true) (h : ∀ K : Act → World → Prop, (∀ a w, wpTail P ops Q (r + 1) m a w → K a w) → o.wp P a w K Q) : wpTail P ops Q r (m + 1) a w := by
  show wpOp P ops Q r _ a w
  unfold wpOp
  simp only [hi]
  rw [if_pos hw]
  exact .inl (h _ fun _ _ h => h)
end
theorem grs_s {W : World} {a : Option Addr} {cap k n : Nat} {P : List (GrpI × Value)} (hn : P.length = n) (h : Row W 2 (.slice a n cap) n (flat grc P)) (hk : k < P.length) : ∃ g, a = some ⟨g, 0, none⟩ ∧ W.cell? ⟨g, k * 2, none⟩ = some (.string (bs P[k].1.s)) := by
  subst hn
  rcases h.2 with ⟨_, e⟩ | ⟨g, cap', e, h1, _, _, h4, h5⟩
  · omega
  · cases e
    refine ⟨g, rfl, ?_⟩
    have := flat_at grc grc_len P k hk 0 (by omega)
    rw [Nat.add_zero] at this
    rw [h4 (k * 2) (by omega), this]
    rfl
theorem step_append_runX {P : Program} {ops : Array Oper} {o : Oper} {a : Act} {w : World} {K : Act → World → Prop} {Q : Exit → Act → World → Prop} {E : Prop}
    (hg : o.guard = none) (s x : Operand) (t tx : TypeId) (hop : o.op = Op.call { callee := Callee.builtin Builtin.append, args := #[s, x], argTypes := #[t, tx] })
    (vs vx : Value) (hs : a.eval s = vs) (hx : a.eval x = vx) (v' : Value) (w' : World) (hr : (Builtin.append_ #[t, tx] o.type #[vs, vx]).run P w = .ok v' w') (hK : K (a.put o.dst v') w') :
    if Region.wanted o (yielded ops a.tmps) = true then Oper.wp P o a w K Q else E := by
  have hw : Region.wanted o (yielded ops a.tmps) = true := by simp [Region.wanted, hg]
  rw [if_pos hw]
  unfold Oper.wp
  simp [execOp, hop, resolve, invoke, builtin, hs, hx, hr, Result.andThen]
  exact hK
/-- One more dot in a group of the document. -/
theorem rg_dot {n1 n k g cap : Nat} {W : World} {P : List (GrpI × Value)} (hn : P.length = n) (h : GrO n1 W (.slice (some ⟨g, 0, none⟩) n cap) P) (hk : k < P.length) (x : DotI) (hn1 : n1 ≤ W.heap.size) (hb : P[k].1.d.length ≤ 1000) :
    ∃ a' m' c' W6, (Builtin.append_ #[42, 42] 42 #[P[k].2, .slice (some ⟨W.heap.size, 0, none⟩) 1 1]).run Tryd.prog (W.alloc (.cells #[.int .u8 x.r, .int .u32 x.n] 78)).drew = .ok (.slice a' m' c') W6 ∧
      W6.cell? ⟨g, k * 2 + 1, none⟩ = some P[k].2 ∧ W6.frozen? ⟨g, k * 2 + 1, none⟩ = false ∧ GrO n1 (W6.setCell ⟨g, k * 2 + 1, none⟩ (.slice a' m' c')) (.slice (some ⟨g, 0, none⟩) n cap) (P.set k (⟨P[k].1.s, P[k].1.d ++ [x]⟩, .slice a' m' c')) ∧ Frm (fun q => q = g ∨ P[k].2.ownBlock = some q) W (W6.setCell ⟨g, k * 2 + 1, none⟩ (.slice a' m' c')) := by
  have gA : Frm (fun _ => False) W (W.alloc (.cells #[.int .u8 x.r, .int .u32 x.n] 78)).drew := ((Frm.refl _ W).alloc _).drew
  have hA := h.keepF gA
  obtain ⟨v', W6, h1, h2, h3, h4⟩ := append_rdots (W.alloc (.cells #[.int .u8 x.r, .int .u32 x.n] 78)).drew P[k].2 (.slice (some ⟨W.heap.size, 0, none⟩) 1 1) P[k].1.d [x] (hA.dots k hk)
    (show DL _ _ _ from Sl.keepF (Sl.built dotc dotc_len W 78 x #[.int .u8 x.r, .int .u32 x.n] rfl) ((Frm.refl _ _).drew)) (by simp; omega)
  obtain ⟨a', c', rfl, _, _⟩ := Row.slice h2
  obtain ⟨h5, h6⟩ := GrO.dot hn hA k hk x h2 h3 h4 (Nat.le_trans hn1 gA.size)
  have f6 : Frm (fun q => P[k].2.ownBlock = some q) (W.alloc (.cells #[.int .u8 x.r, .int .u32 x.n] 78)).drew W6 := (Frm.refl _ _).grown h3 (fun q _ e => e)
  have hr6 : Row W6 2 (.slice (some ⟨g, 0, none⟩) P.length cap) P.length (flat grc P) := by
    have := hA.row
    rw [← hn] at this
    exact Row.keep this f6 (fun q e e2 => hA.apu k hk q (by rw [← hn]; exact e) e2)
  obtain ⟨g', e, d1, d2⟩ := grs_at rfl hr6 hk
  cases e
  exact ⟨a', _, c', W6, h1, d1, d2, h5, (gA.mono fun _ _ h => h.elim).trans h6⟩
theorem frm_grownX {w w' : World} {row : Option Nat} (h : w.grownBy w' row) : Frm (fun k => row = some k) w w' :=
  ⟨h.os, h.tape, h.output, h.size, fun k hk hn => h.block k hk fun e => hn e.symm⟩
theorem fold_step (p : List UInt8 → List UInt8 → Bool) (l : List SibI) (m i : Nat) (y : SibI) (hm : m < l.length) (hi : l.length - 1 - m = i) (hy : ∀ h : i < l.length, l[i] = y) : (l.reverse.take (m + 1)).foldl (addG p) [] = addG p ((l.reverse.take m).foldl (addG p) []) y := by
  have hml : m < l.reverse.length := by rw [List.length_reverse]; exact hm
  have he : l.reverse[m] = y := by
    rw [List.getElem_reverse]
    have := hy (by omega)
    subst hi
    exact this
  rw [List.take_add_one, List.getElem?_eq_getElem hml, he, List.foldl_append]
  rfl
theorem gok_take (p : List UInt8 → List UInt8 → Bool) (l : List SibI) (m : Nat) (hm : m ≤ l.length) (hs : ∀ x ∈ l, x.s.length ≤ 200) : GOk ((l.reverse.take m).foldl (addG p) []) m := by
  have := gok_fold (p := p) (l.reverse.take m) [] 0 ⟨Nat.le_refl _, fun g h => (by cases h), fun g h => (by cases h)⟩ (fun x hx => hs x (List.mem_reverse.1 (List.mem_of_mem_take hx)))
  rw [List.length_take, List.length_reverse, Nat.min_eq_left hm, Nat.zero_add] at this
  exact this
set_option maxRecDepth 100000 in
set_option maxHeartbeats 8000000 in
theorem rgroups_any (f : Nat → Nat) (v : Value) (l : List SibI) (q : Bool) (w : World) (h : SL w v l) (hs : ∀ x ∈ l, x.s.length ≤ 200) (hb : l.length ≤ 1000) :
    Calls Tryd.prog 11 #[rg f v, .bool q] w (RgTo (grps (sameR q) l) w) := by
  obtain ⟨a0, c0, rfl, hl1, hl2⟩ := h.slice
  unfold maxLen at hl2
  obtain ⟨c, hc⟩ : ∃ c, w.heap.size = c := ⟨_, rfl⟩
  obtain ⟨wb, hwb⟩ : ∃ wb, w.alloc (.cells (rgc f (.slice a0 l.length c0)) 37) = wb := ⟨_, rfl⟩
  have g0 : Frm (fun _ => False) w wb := by rw [← hwb]; exact (Frm.refl _ w).alloc _
  have hB : Blk wb c 37 (rgc f (.slice a0 l.length c0)) := by rw [← hwb, ← hc]; exact Blk.alloc _ _ _
  have c8 := hB.cell 8 rfl
  have HS := Lib.hid (And.intro (h.keepF g0) (And.intro hs (And.intro hB g0)))
  have w1 : IntKind.i64.wrap ((l.length : Int) - 1) = (l.length : Int) - 1 := by rw [IntKind.wrap_i64]; omega
  clear h hs hB g0
  go_enter Tryd.func11, Tryd.ntmps11
  go_wp2_with fail
  (try rw [hwb])
  (try rw [hc])
  have HH := Lib.hid (And.intro hwb hc)
  clear hwb hc
  go_loopw [5, 6] (fun s5 s6 wr => ∃ m : Nat, m ≤ l.length ∧ s6 = .int .i64 ((l.length : Int) - 1 - (m : Int)) ∧ ∃ P, GrO wb.heap.size wr s5 P ∧ P.map Prod.fst = (l.reverse.take m).foldl (addG (sameR q)) [] ∧ Frm (fun _ => False) wb wr) (fun _ i _ => (intOf i + 1).toNat)
  case atStart => exact ⟨0, Nat.zero_le _, by simp, [], GrO.nil _ _, rfl, Frm.refl _ _⟩
  case round =>
    obtain ⟨m, hm, rfl, P, hG, hP, gr⟩ := hrel
    obtain ⟨a5, c5, rfl, hp1, hp2⟩ := Row.slice hG.row
    unfold maxLen at hp2
    have hok : GOk (P.map Prod.fst) m := by rw [hP]; exact gok_take _ l m hm HS.out.2.1
    have hPl : P.length ≤ m := by have := hok.len; rw [List.length_map] at this; exact this
    have hPd : ∀ i (h : i < P.length), P[i].1.d.length ≤ 1000 ∧ P[i].1.s.length ≤ 200 := fun i h => by
      have hmem : P[i].1 ∈ P.map Prod.fst := List.mem_map.2 ⟨P[i], List.getElem_mem h, rfl⟩
      have h1 := hok.d P[i].1 hmem
      have h2 := hok.s P[i].1 hmem
      omega
    have HPD := Lib.hid hPd
    clear hok hPd
    by_cases hlt : m < l.length
    · obtain ⟨i, hi⟩ : ∃ i, l.length - 1 - m = i := ⟨_, rfl⟩
      have hie : (l.length : Int) - 1 - (m : Int) = (i : Int) := by omega
      rw [hie]
      have hil : i < l.length := by omega
      obtain ⟨g, off, rfl, e0, e1, e2⟩ := SL.cells (HS.out.1) i hil
      have e0 := gr.cellF e0
      have e1 := gr.cellF e1
      have e2 := gr.cellF e2
      have c8 := gr.cellF c8
      obtain ⟨y, hy⟩ : ∃ y, l[i] = y := ⟨_, rfl⟩
      rw [hy] at e0 e1 e2
      have hys : y.s.length ≤ 200 := hy ▸ HS.out.2.1 _ (List.getElem_mem hil)
      have hi0 : (0 : Int) ≤ (i : Int) := by omega
      have hii : (i : Int) < (l.length : Int) := by omega
      have HG := Lib.hid (And.intro hG (And.intro hP gr))
      obtain ⟨n, hn⟩ : ∃ n, P.length = n := ⟨_, rfl⟩
      rw [hn] at hp1 hPl ⊢
      have HY := Lib.hid (And.intro hy (And.intro hys (And.intro hi hn)))
      have hrow : Hid (Row wr 2 (.slice a5 n c5) n (flat grc P)) := Lib.hid (by rw [← HY.out.2.2.2]; exact HG.out.1.row)
      clear hG hP gr hy hys hi hie hn
      go_wp2_with fail
      go_loopw [7] (fun s7 wi => ∃ k : Nat, k ≤ n ∧ s7 = .int .i64 (k : Nat) ∧ (∀ j (hj : j < P.length), j < k → sameR q P[j].1.s y.s = false) ∧ Frm (fun _ => False) wr wi) (fun s7 _ => n - (intOf s7).toNat)
      case atStart => exact ⟨0, Nat.zero_le _, rfl, fun j _ h => absurd h (Nat.not_lt_zero _), Frm.refl _ _⟩
      case round =>
        obtain ⟨k, hk, rfl, hall, gi⟩ := hrel
        by_cases hkn : k < n
        · obtain ⟨g5, rfl, d0⟩ := grs_s HY.out.2.2.2 hrow.out (by have := HY.out.2.2.2; omega : k < P.length)
          have hkP : k < P.length := by have := HY.out.2.2.2; omega
          obtain ⟨t, ht⟩ : ∃ t, P[k].1.s = t := ⟨_, rfl⟩
          have htl : t.length ≤ 1000 := by rw [← ht]; have := (HPD.out k hkP).2; omega
          rw [ht] at d0
          have d0 := gi.cellF d0
          have c8 := gi.cellF c8
          have e2 := gi.cellF e2
          have hki : (k : Int) < (n : Int) := by omega
          have hk0 : (0 : Int) ≤ (k : Int) := by omega
          have HSM := Lib.hid (fun W => rsame_any t y.s q W htl (by have := HY.out.2.1; omega))
          have HI := Lib.hid (And.intro hall gi)
          have HT : Hid (∀ h : k < P.length, P[k].1.s = t) := Lib.hid fun _ => ht
          clear hall gi htl ht hkP
          go_upto_region 6 with fail
          refine wp_region_tail 17 2 (fun W => W.cell? ⟨g5, k * 2, none⟩ = some (.string (bs t)) ∧ W.cell? ⟨c, 8, none⟩ = some (.slice (some ⟨g, off, none⟩) l.length c0) ∧ W.cell? ⟨g, off + i * 3 + 2, none⟩ = some (.string (bs y.s)) ∧ Frm (fun _ => False) wr W) (by kernel_rfl) rfl rfl (by kernel_rfl) (by kernel_rfl) (by kernel_rfl) (by kernel_rfl) (⟨d0, c8, e2, (Frm.refl _ wr).drew⟩) ?_
          repeat' first
            | (refine CanonL.skip (by rfl) ?_; (try simp only [Act.put, List.setIfInBounds_toArray, List.set_cons_zero, List.set_cons_succ]))
            | (refine CanonL.val (v := ?_) (by rfl) ?_ ?_; rotate_left 1; (focus (intro w hSw; (try dsimp only at hSw); go_simp; (try (with_reducible rfl)); done)); (try simp only [Act.put, List.setIfInBounds_toArray, List.set_cons_zero, List.set_cons_succ]))
          refine CanonL.done ?_
          intro w9 hS9
          obtain ⟨_, _, _, g9⟩ := hS9
          refine wpTail.consH rfl (by rfl) (fun K hK => ?_)
          unfold Oper.wp execOp
          go_simp
          with_reducible refine (HSM.out w9).mono ?_
          rintro e w10 ⟨rfl, g10⟩
          have H10 := Lib.hid (HI.out.2.trans (g9.trans g10))
          have HQ10 := Lib.hid (g9.trans g10)
          clear g9 g10
          refine hK _ _ ?_
          clear hK K
          try simp only [Act.put, List.setIfInBounds_toArray, List.set_cons_zero, List.set_cons_succ]
          obtain ⟨bb, hbb⟩ : ∃ bb, sameR q t y.s = bb := ⟨_, rfl⟩
          rw [hbb]
          have HBB := Lib.hid hbb
          clear hbb
          cases bb with
          | false =>
            refine wpTail.consH rfl (by rfl) (fun K hK => ?_)
            unfold Oper.wp execOp
            go_simp
            refine hK _ _ ?_
            clear hK K
            try simp only [Act.put, List.setIfInBounds_toArray, List.set_cons_zero, List.set_cons_succ]
            refine wpTail.cons rfl rfl (fun K hK => ?_)
            unfold Oper.wp execOp
            go_simp
            refine hK _ _ ?_
            clear hK K
            try simp only [Act.put, List.setIfInBounds_toArray, List.set_cons_zero, List.set_cons_succ]
            refine wpTail.done ?_
            go_wp2_with fail
            go_roundw
            case rel =>
              refine ⟨k + 1, by omega, by go_num, fun j hj hjk => ?_, H10.out⟩
              by_cases e : j = k
              · subst e; rw [HT.out]; exact HBB.out
              · exact HI.out.1 j hj (by omega)
            case measure => simp [intOf]; omega
          | true =>
            refine wpTail.consH rfl (by rfl) (fun K hK => ?_)
            unfold Oper.wp execOp
            go_simp
            refine hK _ _ ?_
            clear hK K
            try simp only [Act.put, List.setIfInBounds_toArray, List.set_cons_zero, List.set_cons_succ]
            refine wpTail.cons rfl rfl (fun K hK => ?_)
            unfold Oper.wp execOp
            go_simp
            refine hK _ _ ?_
            clear hK K
            try simp only [Act.put, List.setIfInBounds_toArray, List.set_cons_zero, List.set_cons_succ]
            refine wpTail.done ?_
            have hne : ((k : Int) == (n : Int)) = false := by rw [beq_eq_false_iff_ne]; omega
            go_upto_region 10 with fail
            have hkP : k < P.length := by have := HY.out.2.2.2; omega
            have hGi := HG.out.1.keepF H10.out
            have hnn := HY.out.2.2.2
            have hGi' : GrO wb.heap.size w10 (.slice (some ⟨g5, 0, none⟩) n c5) P := by rw [← hnn]; exact hGi
            obtain ⟨a6, m6, cc6, W6, x1, x2, x3, x4, x5⟩ := rg_dot hnn hGi' hkP y.d (Nat.le_trans HG.out.2.2.size H10.out.size) (HPD.out k hkP).1
            obtain ⟨dvv, hdv⟩ : ∃ d, P[k].2 = d := ⟨_, rfl⟩
            rw [hdv] at x1 x2 x5
            obtain ⟨ad, cd, hde, _, _⟩ := Row.slice (hGi.dots k hkP)
            obtain ⟨g5', e5, d1, _⟩ := grs_at hnn (by have := hGi'.row; rw [hnn] at this; exact this) hkP
            cases e5
            rw [hdv] at d1
            have c8 := HQ10.out.cellF c8
            have e0 := H10.out.cellF e0
            have e1 := H10.out.cellF e1
            have fA : Frm (fun _ => False) w10 (w10.alloc (.cells #[.int .u8 y.r, .int .u32 y.n] 78)).drew := ((Frm.refl _ w10).alloc _).drew
            have c8b := fA.cellF c8
            have e0b := fA.cellF e0
            have e1b := fA.cellF e1
            have d1b := fA.cellF d1
            have HX := Lib.hid (And.intro x4 x5)
            have Hrun := Lib.hid x1
            have hki2 : (k : Int) < (n : Int) := by omega
            clear x1 x4 x5 hGi hGi' hde fA hne
            have w2 : IntKind.i64.wrap ((i : Int) - 1) = (i : Int) - 1 := by rw [IntKind.wrap_i64]; omega
            have hFS := fold_step (sameR q) l m i y hlt HY.out.2.2.1 (fun _ => HY.out.1)
            rw [← HG.out.2.1, addG_found (k := k) (by rw [List.length_map]; exact hkP) (by rw [List.getElem_map, HT.out hkP]; exact HBB.out) (fun j hj hjk => by rw [List.getElem_map]; exact HI.out.1 j (by rw [List.length_map] at hj; exact hj) hjk), List.getElem_map] at hFS
            have HFS := Lib.hid hFS
            have HDV := Lib.hid hdv
            clear hFS hdv
            go_region_law ((refine step_append_runX rfl (.tmp 58) (.tmp 65) 42 42 rfl dvv (.slice (some ⟨w10.heap.size, 0, none⟩) 1 1) ?h1 ?h2 _ W6 Hrun.out ?_; (case h1 => go_simp); (case h2 => go_simp)))
            all_goals
              go_wp2_with fail
              go_roundw
              case rel =>
                refine ⟨m + 1, by omega, congrArg (Value.int .i64) (by have := HY.out.2.2.1; omega), _, HX.out.1, ?_, ?_⟩
                · rw [HFS.out, List.map_set]
                · refine (HG.out.2.2.trans H10.out).next HX.out.2 fun j hj e => ?_
                  rcases e with e | e
                  · subst e; have := HG.out.1.lo j rfl; omega
                  · rw [← HDV.out] at e
                    have := HG.out.1.lod k hkP j e; omega
              case measure => first | (simp [intOf]; done) | (simp [intOf]; omega)
        · obtain rfl : k = n := by omega
          have hkd : decide ((k : Int) < (k : Int)) = false := decide_eq_false (by omega)
          have HI := Lib.hid (And.intro hall gi)
          clear hall gi
          go_upto_region 6 with fail
          go_quiet (fail)
          go_upto_region 9 with fail
          generalize hnq : nq = nq'
          have hq9 : Frm (fun _ => False) wr (wr.drewN nq') := (Frm.refl _ _).drewN _
          have F9 := Lib.hid (HI.out.2.trans hq9)
          have e2 := (HI.out.2.trans hq9).cellF e2
          have c8 := (HI.out.2.trans hq9).cellF c8
          clear hq9
          generalize wr.drewN nq' = wq at *
          have hnn := HY.out.2.2.2
          have hGq := HG.out.1.keepF F9.out
          have gA : Frm (fun _ => False) wq (wq.alloc (.cells #[.string (bs y.s), .slice none 0 0] 44)) := (Frm.refl _ _).alloc _
          have hGA := hGq.keepF gA
          obtain ⟨v', W7, x1, x2, x3, x4⟩ := append_rgrps (wq.alloc (.cells #[.string (bs y.s), .slice none 0 0] 44)) (.slice a5 P.length c5) (.slice (some ⟨wq.heap.size, 0, none⟩) 1 1) P [((⟨y.s, []⟩ : GrpI), Value.slice none 0 0)] hGA.row
            (Sl.built grc grc_len wq 44 ((⟨y.s, []⟩ : GrpI), Value.slice none 0 0) #[.string (bs y.s), .slice none 0 0] rfl) (fun z hz => by simp [flat, grc] at hz; rcases hz with rfl | rfl <;> rfl) (by simp; omega)
          have hP7 := hGA.push y.s x2 x3 x4 (Nat.le_trans HG.out.2.2.size (Nat.le_trans F9.out.size gA.size))
          obtain ⟨P7, hP7e⟩ : ∃ P7, P ++ [((⟨y.s, []⟩ : GrpI), Value.slice none 0 0)] = P7 := ⟨_, rfl⟩
          have hl7 : P7.length = k + 1 := by rw [← hP7e, List.length_append, hnn]; rfl
          rw [hP7e] at hP7 x2
          obtain ⟨a7, c7, rfl, hb7, hb8⟩ := Row.slice x2
          unfold maxLen at hb8
          rw [hl7] at hP7 x1 hb7 x4
          rw [hnn] at x1
          have hk7 : k < P7.length := by omega
          obtain ⟨g7, rfl, d7, _⟩ := grs_at (n := k + 1) hl7 (by have := hP7.row; rw [hl7] at this; exact this) hk7
          have hP7k : P7[k] = ((⟨y.s, []⟩ : GrpI), Value.slice none 0 0) := by subst hP7e; subst hnn; simp
          rw [hP7k] at d7
          have F7 : Frm (fun _ => False) wb W7 := ((HG.out.2.2.trans F9.out).trans gA).next (frm_grownX x3) fun j hj e => by have := HG.out.1.lo j e; omega
          obtain ⟨a6, m6, cc6, W6, y1, y2, y3, y4, y5⟩ := rg_dot hl7 hP7 hk7 y.d F7.size (by rw [hP7k]; simp)
          rw [hP7k] at y1 y2 y4 y5
          obtain ⟨g', off', he, e0, e1, _⟩ := SL.cells (HS.out.1.keepF F7) i hil
          cases he
          rw [HY.out.1] at e0 e1
          have c8' := (HS.out.2.2.1.keep F7 (fun h => h)).cell 8 rfl
          have fA : Frm (fun _ => False) W7 (W7.alloc (.cells #[.int .u8 y.r, .int .u32 y.n] 78)).drew := ((Frm.refl _ W7).alloc _).drew
          have c8b := fA.cellF c8'
          have e0b := fA.cellF e0
          have e1b := fA.cellF e1
          have d7b := fA.cellF d7
          have w2 : IntKind.i64.wrap ((i : Int) - 1) = (i : Int) - 1 := by rw [IntKind.wrap_i64]; omega
          have HRA := Lib.hid x1
          have HRB := Lib.hid y1
          have H7 := Lib.hid (And.intro y4 (And.intro y5 (And.intro F7 (And.intro hP7 (And.intro hP7e hP7k)))))
          have hki2 : (k : Int) < (k : Int) + 1 := by omega
          have hk0 : (0 : Int) ≤ (k : Int) := by omega
          clear hGq gA hGA x1 x2 x3 x4 hP7 hP7e hl7 hP7k F7 y1 y4 y5 fA
          go_upto_region 10 with (first
            | (at_builtin; refine Lib.wpList_append_run _ rfl (.tmp 42) (.tmp 50) _ _ rfl (.slice a5 k c5) (.slice (some ⟨wq.heap.size, 0, none⟩) 1 1) rfl rfl _ W7 HRA.out ?_)
            | fail)
          have hFS := fold_step (sameR q) l m i y hlt HY.out.2.2.1 (fun _ => HY.out.1)
          rw [← HG.out.2.1, addG_new (fun j hj => by rw [List.getElem_map]; exact HI.out.1 j (by rw [List.length_map] at hj; exact hj) (by rw [List.length_map] at hj; omega))] at hFS
          have HFS := Lib.hid hFS
          clear hFS hnn
          go_region_law ((refine step_append_runX rfl (.tmp 58) (.tmp 65) 42 42 rfl (.slice none 0 0) (.slice (some ⟨W7.heap.size, 0, none⟩) 1 1) ?h1 ?h2 _ W6 HRB.out ?_; (case h1 => go_simp); (case h2 => go_simp)))
          all_goals
            go_wp2_with fail
            go_roundw
            case rel =>
              refine ⟨m + 1, by omega, congrArg (Value.int .i64) (by have := HY.out.2.2.1; omega), _, H7.out.1, ?_, ?_⟩
              · rw [HFS.out, List.map_set, ← H7.out.2.2.2.2.1, List.map_append]
                have hkk : k = (P.map Prod.fst).length := by rw [List.length_map]; exact HY.out.2.2.2.symm
                rw [hkk]
                simp
              · refine H7.out.2.2.1.next H7.out.2.1 fun j hj e => ?_
                rcases e with e | e
                · subst e; have := H7.out.2.2.2.1.lo j rfl; omega
                · cases e
            case measure => first | (simp [intOf]; done) | (simp [intOf]; omega)
    · obtain rfl : m = l.length := by omega
      have hG1 := HS.out.2.2.2
      have hneg : ¬ (0 : Int) ≤ (l.length : Int) - 1 - (l.length : Int) := by omega
      have HG := Lib.hid (And.intro hG (And.intro hP gr))
      clear hG hP gr
      go_wp2_with fail
      go_ret
      refine ⟨_, P, rfl, ⟨HG.out.1.row, HG.out.1.dots, HG.out.1.apart, HG.out.1.apu, fun g e => Nat.le_trans hG1.size (HG.out.1.lo g e), fun i hi g e => Nat.le_trans hG1.size (HG.out.1.lod i hi g e)⟩, ?_, hG1.trans HG.out.2.2⟩
      rw [HG.out.2.1, ← List.length_reverse, List.take_length]
      rfl
end Go.Proofs.YtiokabhidjafeaaDoor

