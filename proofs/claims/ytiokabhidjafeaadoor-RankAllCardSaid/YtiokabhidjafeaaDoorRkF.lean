/- A clone of dots; the groups of a register, as they are gone through: of each the dots are a clone. No condition. -/
import Derived.Test.YtiokabhidjafeaaDoorRkE
import Derived.RegionIn
namespace Go.Proofs.YtiokabhidjafeaaDoor
open Go.RowKit Go.Shelf
attribute [local go_sem] Oper.semAt_some

theorem Sl.keepK {K : Nat → Prop} {w w' : World} {size n : Nat} {v : Value} {xs : List Value} (h : Sl w size v n xs) (hk : keptS K w w') (hv : ∀ g, blkOf v = some g → K g) : Sl w' size v n xs := by
  obtain ⟨h1, a, cap, rfl, h2, h3, h4⟩ := h
  refine ⟨h1, a, cap, rfl, h2, h3, ?_⟩
  rcases h4 with h4 | ⟨g, off, rfl, h5, h6⟩
  · exact .inl h4
  · have e := hk g (hv g rfl)
    refine .inr ⟨g, off, rfl, ?_, fun j hj => (World.cell?_of_block (a := ⟨g, off + j, none⟩) e).trans (h6 j hj)⟩
    obtain ⟨o, ho⟩ : ∃ o, w.heap[g]? = some o := ⟨_, Array.getElem?_eq_getElem h5⟩
    rw [ho] at e
    exact (Array.getElem?_eq_some_iff.1 e).1
/-- A call's answer: these dots, in new memory. -/
def NewE (l : List DotI) (w : World) (e : Ending) (w' : World) : Prop := ∃ v', e = .returned v' ∧ OwnE w' v' l ∧ Frm (fun _ => False) w w' ∧ ∀ g, v'.ownBlock = some g → w.heap.size ≤ g
theorem OwnE.empty (w : World) : OwnE (w.alloc (.cells #[] 61)) (.slice (some ⟨w.heap.size, 0, none⟩) 0 0) [] :=
  Row.made w 61 2 0 0 [] #[] rfl (Nat.le_refl _) (by decide) rfl rfl
theorem nilDots (w : World) (a : Option Addr) (n c n' c' : Nat) : (binOp .eql 39 (.slice a n c) (.slice none n' c')).run Tryd.prog w = .ok (.bool a.isNone) w := Lib.run_eql_slice_nil w _ _ a n c n' c' Tryd.underlying39
set_option maxRecDepth 100000 in
set_option maxHeartbeats 1000000 in
theorem dclone_any (v : Value) (l : List DotI) (w : World) (h : DL w v l) (hb : l.length ≤ 1000000) : Calls Tryd.prog 49 #[v] w (NewE l w) := by
  obtain ⟨a, cap, rfl, hc1, hc2⟩ := h.slice
  have hq := nilDots
  cases a with
  | none =>
    have hl : l = [] := by
      rcases Nat.eq_zero_or_pos l.length with h0 | h0
      · exact List.eq_nil_of_length_eq_zero h0
      · obtain ⟨_, _, e, _⟩ := Sl.elem dotc dotc_len h 0 h0 (by omega); cases e
    have Hl := Lib.hid hl
    clear hl
    go_enter Tryd.func49, Tryd.ntmps49
    go_wp2
    go_ret
    exact ⟨.slice none 0 0, rfl, by rw [Hl.out]; exact OwnE.nil_ _, Frm.refl _ _, fun g hg => by cases hg⟩
  | some ad =>
    have h1 := h.keepF ((Frm.refl _ w).alloc (.cells #[] 61))
    obtain ⟨v', w', hrun, hrow, hg, ho⟩ := append_dotsE _ _ _ [] l (OwnE.empty w) h1 (by simp; omega)
    have Hrun := Lib.hid hrun
    clear hrun
    go_enter Tryd.func49, Tryd.ntmps49
    go_wp2_with (at_builtin; refine Lib.wpList_append_run _ rfl _ _ _ _ rfl _ _ rfl rfl _ _ Hrun.out ?_)
    go_ret
    refine ⟨v', rfl, hrow, ((Frm.refl _ w).alloc _).grown hg (fun k hk e => by have e2 : w.heap.size = k := Option.some.inj e; omega), fun g hg => ?_⟩
    rcases ho g hg with e | e
    · cases e; exact Nat.le_refl _
    · simp at e; omega
/-- What is handed to a round. -/
abbrev gEnc (x : GrpI × Value) : Array Value := #[.agg #[.string (bs x.1.s), x.2]]
/-- The dots that are handed lie in new memory. -/
def GY (x : GrpI × Value) (W0 W1 : World) : Prop := OwnE W1 x.2 x.1.d ∧ ∀ g, x.2.ownBlock = some g → W0.heap.size ≤ g
/-- The same, and the group is one of these. -/
def GYm (P : List (GrpI × Value)) (x : GrpI × Value) (W0 W1 : World) : Prop := GY x W0 W1 ∧ x.1 ∈ P.map Prod.fst
/-- The yield of a loop is no nil. -/
theorem yield_eqlG (w : World) (f : Fn) (a c : Array Value) : (binOp .eql 108 (.func f a c) .nilFunc).run Tryd.prog w = .ok (.bool false) w := by
  have h : ∀ d : Nat, (Op.equalIn (d + 1) 108 (.func f a c) .nilFunc).run Tryd.prog w = .ok false w := fun d => by
    simp [Op.equalIn, run_underlying Tryd.underlying108]
  simp only [binOp]
  simp [Op.equal, Op.maxDepth, h 9999]
set_option maxRecDepth 100000 in
set_option maxHeartbeats 4000000 in
theorem groups_gives (B : Nat) (u : Value) (P : List (GrpI × Value)) (K : Nat → Prop) (w : World) (hB : Blk w B 30 #[u]) (hP : Sl w 2 u P.length (flat grc P)) (hD : ∀ i (h : i < P.length), DL w P[i].2 P[i].1.d ∧ P[i].1.d.length ≤ 1000)
    (hKlt : ∀ q, K q → q < w.heap.size) (hKu : ∀ g, blkOf u = some g → K g) (hKd : ∀ i (h : i < P.length) g, blkOf P[i].2 = some g → K g) :
    GivesM Fence.wide 8 Tryd.prog 48 #[.pointer (some ⟨B, 0, none⟩)] gEnc (GYm P) K (fun xs => xs.map Prod.fst = P.map Prod.fst) P.length w := fun l0 J W hW hY h0 => by
  have hBW : Blk W B 30 #[u] := hB.keep hW (fun h => h)
  have hPW := Sl.keepF hP hW
  obtain ⟨a, cap, rfl, hc1, hc2⟩ := Sl.slice hPW
  unfold maxLen at hc2
  have c0 := hBW.cell 0 rfl
  have hfe := yield_eqlG
  have a3 := Tryd.isAgg41
  have z3 := Tryd.sizeOf41
  have HY := Lib.hid hY
  have HD : Hid (∀ i (h : i < P.length), DL W P[i].2 P[i].1.d ∧ P[i].1.d.length ≤ 1000) := Lib.hid fun i h => ⟨(hD i h).1.keepF hW, (hD i h).2⟩
  have HKd := Lib.hid hKd
  have HKlt : Hid (∀ q, K q → q < W.heap.size) := Lib.hid fun q hq => Nat.lt_of_lt_of_le (hKlt q hq) hW.size
  clear hY hD hKd hKlt hB hP
  refine callsIn_of_wp Tryd.func48 rfl trivial ?_ rfl
  simp only [Tryd.ntmps48, List.size_toArray, List.length_cons, List.length_nil, Nat.reduceAdd, Nat.reduceSub, Array.replicate_succ, Array.replicate_zero, List.push_toArray, List.append_toArray, List.nil_append, List.cons_append]
  gi_wp2
  gi_loopw [9] (fun i wr => ∃ (k : Nat) (xs : List (GrpI × Value)), i = .int .i64 k ∧ k ≤ P.length ∧ xs.map Prod.fst = (P.map Prod.fst).take k ∧ J xs wr ∧ keptS K W wr) (fun i _ => P.length - (intOf i).toNat)
  case atStart => exact ⟨0, [], rfl, Nat.zero_le _, rfl, h0, fun _ _ => rfl⟩
  case round =>
    obtain ⟨k, xs, rfl, hk, hxs, hJs, hkp⟩ := hrel
    by_cases hlt : k < P.length
    · have hk0 : (0 : Int) ≤ (k : Int) := by omega
      have hki : (k : Int) < (P.length : Int) := by omega
      have hsr := Sl.keepK hPW hkp hKu
      obtain ⟨g, off, rfl, hg, hcell⟩ := Sl.elem grc grc_len hsr k hlt (by omega)
      obtain ⟨s, hs⟩ : ∃ s, P[k].1.s = s := ⟨_, rfl⟩
      obtain ⟨d, hd⟩ : ∃ d, P[k].1.d = d := ⟨_, rfl⟩
      obtain ⟨vd, hvd⟩ : ∃ vd, P[k].2 = vd := ⟨_, rfl⟩
      have c1 : wr.cell? ⟨g, off + k * 2, none⟩ = some (.string (bs s)) := by rw [← hs]; exact hcell 0 (by omega)
      have c2 : wr.cell? ⟨g, off + k * 2 + 1, none⟩ = some vd := by rw [← hvd, Nat.add_assoc]; exact hcell 1 (by omega)
      have hdl : DL wr vd d := by rw [← hvd, ← hd]; exact Sl.keepK (HD.out k hlt).1 hkp (HKd.out k hlt)
      have hd9 : d.length ≤ 1000 := by rw [← hd]; exact (HD.out k hlt).2
      have hmem : (⟨s, d⟩ : GrpI) ∈ P.map Prod.fst := List.mem_map.2 ⟨P[k], List.getElem_mem hlt, GrpI.ext' hs hd⟩
      have HMEM := Lib.hid hmem
      have hxl : xs.length < P.length := by have := congrArg List.length hxs; simp at this; omega
      have HXL := Lib.hid hxl
      have HXS : Hid (∀ v', (xs ++ [((⟨s, d⟩ : GrpI), (v' : Value))]).map Prod.fst = (P.map Prod.fst).take (k + 1)) := Lib.hid fun v' => by
        have hkm : k < (P.map Prod.fst).length := by rw [List.length_map]; exact hlt
        rw [List.map_append, hxs, List.take_succ_eq_append_getElem hkm, List.getElem_map]
        simp only [List.map_cons, List.map_nil]
        congr 2
        exact GrpI.ext' hs.symm hd.symm
      have gA : Frm (fun _ => False) wr (wr.alloc (.cells #[.string (bs s), vd] 41)) := (Frm.refl _ wr).alloc _
      have bA : Blk (wr.alloc (.cells #[.string (bs s), vd] 41)) wr.heap.size 41 #[.string (bs s), vd] := Blk.alloc wr _ _
      obtain ⟨a4, c4, rfl, _, _⟩ := hdl.slice
      have HKP := Lib.hid hkp
      have HJ := Lib.hid hJs
      have HDL := Lib.hid hdl
      have hKw : ∀ q, K q → q < wr.heap.size := fun q hq => by
        have e := hkp q hq
        have hl := HKlt.out q hq
        rw [Array.getElem?_eq_getElem hl] at e
        exact (Array.getElem?_eq_some_iff.1 e).1
      have HKW := Lib.hid hKw
      clear hcell hsr hs hd hvd hmem hxl hxs hJs hkp hdl hKw
      gi_wp2
      rename_i hKo
      have HM : Hid (∀ W, Frm (fun _ => False) (wr.alloc (.cells #[.string (bs s), .slice a4 d.length c4] 41)) W → Blk W wr.heap.size 41 #[.string (bs s), .slice a4 d.length c4]) := Lib.hid fun W g => bA.keep g (fun h => h)
      obtain ⟨wA, hwA⟩ : ∃ wA, wr.alloc (.cells #[.string (bs s), .slice a4 d.length c4] 41) = wA := ⟨_, rfl⟩
      rw [hwA] at gA bA HM ⊢
      clear hwA
      have cA0 := bA.cell 0 rfl
      have HFA : Hid (Frm (fun _ => False) wA wA.drew) := Lib.hid ((Frm.refl _ _).drew)
      have HFD := Lib.hid (gA.trans HFA.out)
      have HCL := Lib.hid (dclone_any _ d wA.drew (HDL.out.keepF HFD.out) (by omega))
      have cA1 := bA.cell 1 rfl
      refine wpIn_region_any (by kernel_rfl) ?_
      try (change wpAnyIn _ _ _ _ _ _ _ _ _ (World.drew _))
      refine wpAnyIn_take (i := 0) (v := ?_) rfl rfl (by kernel_rfl) (by kernel_rfl) (by kernel_rfl) (fun _ _ _ h => h) ⟨Or.inl ⟨by rfl, ?z0⟩, fun _ => rfl⟩ ?_
      case z0 =>
        intro w
        go_simp
        try (with_reducible rfl)
      try simp only [Act.put, List.getElem_toArray, List.getElem_cons_zero, List.setIfInBounds_toArray, List.set_cons_zero, List.set_cons_succ]
      refine wpAnyIn_take (i := 1) (v := ?_) rfl rfl (by kernel_rfl) (by kernel_rfl) (by kernel_rfl) (fun _ _ _ h => h) ⟨Or.inl ⟨by rfl, ?z1⟩, fun _ => rfl⟩ ?_
      case z1 =>
        intro w
        go_simp
        try (with_reducible rfl)
      try simp only [Act.put, List.getElem_toArray, List.getElem_cons_zero, List.getElem_cons_succ, List.setIfInBounds_toArray, List.set_cons_zero, List.set_cons_succ]
      refine wpAnyIn_take (i := 3) (v := ?_) rfl rfl (by kernel_rfl) (by kernel_rfl) (by kernel_rfl) (fun _ _ _ h => h) ⟨Or.inl ⟨by rfl, ?z3⟩, fun _ => rfl⟩ ?_
      case z3 =>
        intro w
        go_simp
        try (with_reducible rfl)
      try simp only [Act.put, List.getElem_toArray, List.getElem_cons_zero, List.getElem_cons_succ, List.setIfInBounds_toArray, List.set_cons_zero, List.set_cons_succ]
      refine wpAnyIn_ready (rs := [2, 4]) (by kernel_rfl) (by simp) (AllReadyIn.cons rfl (fun K hK => ?_) (AllReadyIn.cons rfl (fun K hK => ?_) AllReadyIn.nil))
      · go_simp
        refine hK _ _ ?_
        clear hK K
        try simp only [Act.put, List.getElem_toArray, List.getElem_cons_zero, List.getElem_cons_succ, List.setIfInBounds_toArray, List.set_cons_zero, List.set_cons_succ]
        refine wpAnyIn_ready (rs := [4]) (by kernel_rfl) (by simp) (AllReadyIn.cons rfl (fun K hK => ?_) AllReadyIn.nil)
        go_simp
        refine hK _ _ ?_
        clear hK K
        try simp only [Act.put, List.getElem_toArray, List.getElem_cons_zero, List.getElem_cons_succ, List.setIfInBounds_toArray, List.set_cons_zero, List.set_cons_succ]
        refine wpAnyIn_ready (rs := [5]) (by kernel_rfl) (by simp) (AllReadyIn.cons rfl (fun K hK => ?_) AllReadyIn.nil)
        go_simp
        refine ⟨trivial, (callsIn_wide.2 HCL.out).mono ?_⟩
        rintro e W5 ⟨v', rfl, o5, f5, n5⟩
        obtain ⟨a5, c5, rfl, _, _⟩ := Row.slice o5
        have f5w := HFD.out.trans f5
        have hn5 : ∀ q, (Value.slice a5 d.length c5).ownBlock = some q → wr.heap.size ≤ q := fun q e => Nat.le_trans HFD.out.size (n5 q e)
        have cB0 := (HM.out _ (HFA.out.trans f5)).cell 0 rfl
        refine hK _ _ ?_
        clear hK K
        try simp only [Act.put, List.getElem_toArray, List.getElem_cons_zero, List.getElem_cons_succ, List.setIfInBounds_toArray, List.set_cons_zero, List.set_cons_succ]
        refine wpAnyIn_take (i := 6) (v := ?_) rfl rfl (by kernel_rfl) (by kernel_rfl) (by kernel_rfl) (fun _ _ _ h => h) ⟨Or.inl ⟨by rfl, ?z6⟩, fun _ => rfl⟩ ?_
        case z6 =>
          intro w
          go_simp
          try (with_reducible rfl)
        try simp only [Act.put, List.getElem_toArray, List.getElem_cons_zero, List.getElem_cons_succ, List.setIfInBounds_toArray, List.set_cons_zero, List.set_cons_succ]
        obtain ⟨fn, tmps, assign, body, hy, hR⟩ := HY.out xs ((⟨s, d⟩ : GrpI), .slice a5 d.length c5) wr W5 HJ.out f5w ⟨⟨o5, hn5⟩, HMEM.out⟩ HXL.out
        dsimp only [gEnc] at hy
        refine wpAnyIn_ready (rs := [7]) (by kernel_rfl) (by simp) (AllReadyIn.cons rfl (fun K hK => ?_) AllReadyIn.nil)
        go_simp
        refine hR.mono ?_
        rintro e W6 ⟨rfl, hJ6, hk6⟩
        refine hK _ _ ?_
        clear hK K
        try simp only [Act.put, List.getElem_toArray, List.getElem_cons_zero, List.getElem_cons_succ, List.setIfInBounds_toArray, List.set_cons_zero, List.set_cons_succ]
        refine wpAnyIn_take (i := 8) (v := ?_) rfl rfl (by kernel_rfl) (by kernel_rfl) (by kernel_rfl) (fun _ _ _ h => h) ⟨Or.inl ⟨by rfl, ?z8⟩, fun _ => rfl⟩ ?_
        case z8 =>
          intro w
          go_simp
          try (with_reducible rfl)
        try simp only [Act.put, List.getElem_toArray, List.getElem_cons_zero, List.getElem_cons_succ, List.setIfInBounds_toArray, List.set_cons_zero, List.set_cons_succ]
        refine wpAnyIn_done (by kernel_rfl) ?_ _
        have HEND : Hid (∃ (k1 : Nat) (xs1 : List (GrpI × Value)), k + 1 = k1 ∧ k1 ≤ P.length ∧ xs1.map Prod.fst = (P.map Prod.fst).take k1 ∧ J xs1 W6 ∧ keptS K W W6) := Lib.hid ⟨k + 1, xs ++ [((⟨s, d⟩ : GrpI), .slice a5 d.length c5)], rfl, hlt, HXS.out _, hJ6, fun q hq => (hk6 q hq).trans ((f5w.block q (HKW.out q hq) (fun h => h)).trans (HKP.out q hq))⟩
        clear hy hR hJ6 hk6 f5w hn5 cB0 o5 f5 n5 cA0 cA1 gA bA HM HFA HFD HCL HKW HJ HDL HXS
        refine hKo _ _ ?_
        clear hKo
        gi_wp2
        go_roundw
        case rel =>
          obtain ⟨k1, xs1, rfl, e1, e2, e3, e4⟩ := HEND.out
          exact ⟨k + 1, xs1, by go_num, e1, e2, e3, e4⟩
        case measure => simp [intOf]; omega
      · go_simp
        refine hK _ _ ?_
        clear hK K
        try simp only [Act.put, List.getElem_toArray, List.getElem_cons_zero, List.getElem_cons_succ, List.setIfInBounds_toArray, List.set_cons_zero, List.set_cons_succ]
        refine wpAnyIn_ready (rs := [2, 5]) (by kernel_rfl) (by simp) (AllReadyIn.cons rfl (fun K hK => ?_) (AllReadyIn.cons rfl (fun K hK => ?_) AllReadyIn.nil))
        · go_simp
          refine hK _ _ ?_
          clear hK K
          try simp only [Act.put, List.getElem_toArray, List.getElem_cons_zero, List.getElem_cons_succ, List.setIfInBounds_toArray, List.set_cons_zero, List.set_cons_succ]
          refine wpAnyIn_ready (rs := [5]) (by kernel_rfl) (by simp) (AllReadyIn.cons rfl (fun K hK => ?_) AllReadyIn.nil)
          go_simp
          refine ⟨trivial, (callsIn_wide.2 HCL.out).mono ?_⟩
          rintro e W5 ⟨v', rfl, o5, f5, n5⟩
          obtain ⟨a5, c5, rfl, _, _⟩ := Row.slice o5
          have f5w := HFD.out.trans f5
          have hn5 : ∀ q, (Value.slice a5 d.length c5).ownBlock = some q → wr.heap.size ≤ q := fun q e => Nat.le_trans HFD.out.size (n5 q e)
          have cB0 := (HM.out _ (HFA.out.trans f5)).cell 0 rfl
          refine hK _ _ ?_
          clear hK K
          try simp only [Act.put, List.getElem_toArray, List.getElem_cons_zero, List.getElem_cons_succ, List.setIfInBounds_toArray, List.set_cons_zero, List.set_cons_succ]
          refine wpAnyIn_take (i := 6) (v := ?_) rfl rfl (by kernel_rfl) (by kernel_rfl) (by kernel_rfl) (fun _ _ _ h => h) ⟨Or.inl ⟨by rfl, ?z6⟩, fun _ => rfl⟩ ?_
          case z6 =>
            intro w
            go_simp
            try (with_reducible rfl)
          try simp only [Act.put, List.getElem_toArray, List.getElem_cons_zero, List.getElem_cons_succ, List.setIfInBounds_toArray, List.set_cons_zero, List.set_cons_succ]
          obtain ⟨fn, tmps, assign, body, hy, hR⟩ := HY.out xs ((⟨s, d⟩ : GrpI), .slice a5 d.length c5) wr W5 HJ.out f5w ⟨⟨o5, hn5⟩, HMEM.out⟩ HXL.out
          dsimp only [gEnc] at hy
          refine wpAnyIn_ready (rs := [7]) (by kernel_rfl) (by simp) (AllReadyIn.cons rfl (fun K hK => ?_) AllReadyIn.nil)
          go_simp
          refine hR.mono ?_
          rintro e W6 ⟨rfl, hJ6, hk6⟩
          refine hK _ _ ?_
          clear hK K
          try simp only [Act.put, List.getElem_toArray, List.getElem_cons_zero, List.getElem_cons_succ, List.setIfInBounds_toArray, List.set_cons_zero, List.set_cons_succ]
          refine wpAnyIn_take (i := 8) (v := ?_) rfl rfl (by kernel_rfl) (by kernel_rfl) (by kernel_rfl) (fun _ _ _ h => h) ⟨Or.inl ⟨by rfl, ?z8⟩, fun _ => rfl⟩ ?_
          case z8 =>
            intro w
            go_simp
            try (with_reducible rfl)
          try simp only [Act.put, List.getElem_toArray, List.getElem_cons_zero, List.getElem_cons_succ, List.setIfInBounds_toArray, List.set_cons_zero, List.set_cons_succ]
          refine wpAnyIn_done (by kernel_rfl) ?_ _
          have HEND : Hid (∃ (k1 : Nat) (xs1 : List (GrpI × Value)), k + 1 = k1 ∧ k1 ≤ P.length ∧ xs1.map Prod.fst = (P.map Prod.fst).take k1 ∧ J xs1 W6 ∧ keptS K W W6) := Lib.hid ⟨k + 1, xs ++ [((⟨s, d⟩ : GrpI), .slice a5 d.length c5)], rfl, hlt, HXS.out _, hJ6, fun q hq => (hk6 q hq).trans ((f5w.block q (HKW.out q hq) (fun h => h)).trans (HKP.out q hq))⟩
          clear hy hR hJ6 hk6 f5w hn5 cB0 o5 f5 n5 cA0 cA1 gA bA HM HFA HFD HCL HKW HJ HDL HXS
          refine hKo _ _ ?_
          clear hKo
          gi_wp2
          go_roundw
          case rel =>
            obtain ⟨k1, xs1, rfl, e1, e2, e3, e4⟩ := HEND.out
            exact ⟨k + 1, xs1, by go_num, e1, e2, e3, e4⟩
          case measure => simp [intOf]; omega
        · go_simp
          refine ⟨trivial, (callsIn_wide.2 HCL.out).mono ?_⟩
          rintro e W5 ⟨v', rfl, o5, f5, n5⟩
          obtain ⟨a5, c5, rfl, _, _⟩ := Row.slice o5
          have f5w := HFD.out.trans f5
          have hn5 : ∀ q, (Value.slice a5 d.length c5).ownBlock = some q → wr.heap.size ≤ q := fun q e => Nat.le_trans HFD.out.size (n5 q e)
          have cB0 := (HM.out _ (HFA.out.trans f5)).cell 0 rfl
          refine hK _ _ ?_
          clear hK K
          try simp only [Act.put, List.getElem_toArray, List.getElem_cons_zero, List.getElem_cons_succ, List.setIfInBounds_toArray, List.set_cons_zero, List.set_cons_succ]
          refine wpAnyIn_ready (rs := [2]) (by kernel_rfl) (by simp) (AllReadyIn.cons rfl (fun K hK => ?_) AllReadyIn.nil)
          go_simp
          refine hK _ _ ?_
          clear hK K
          try simp only [Act.put, List.getElem_toArray, List.getElem_cons_zero, List.getElem_cons_succ, List.setIfInBounds_toArray, List.set_cons_zero, List.set_cons_succ]
          refine wpAnyIn_take (i := 6) (v := ?_) rfl rfl (by kernel_rfl) (by kernel_rfl) (by kernel_rfl) (fun _ _ _ h => h) ⟨Or.inl ⟨by rfl, ?z6⟩, fun _ => rfl⟩ ?_
          case z6 =>
            intro w
            go_simp
            try (with_reducible rfl)
          try simp only [Act.put, List.getElem_toArray, List.getElem_cons_zero, List.getElem_cons_succ, List.setIfInBounds_toArray, List.set_cons_zero, List.set_cons_succ]
          obtain ⟨fn, tmps, assign, body, hy, hR⟩ := HY.out xs ((⟨s, d⟩ : GrpI), .slice a5 d.length c5) wr W5 HJ.out f5w ⟨⟨o5, hn5⟩, HMEM.out⟩ HXL.out
          dsimp only [gEnc] at hy
          refine wpAnyIn_ready (rs := [7]) (by kernel_rfl) (by simp) (AllReadyIn.cons rfl (fun K hK => ?_) AllReadyIn.nil)
          go_simp
          refine hR.mono ?_
          rintro e W6 ⟨rfl, hJ6, hk6⟩
          refine hK _ _ ?_
          clear hK K
          try simp only [Act.put, List.getElem_toArray, List.getElem_cons_zero, List.getElem_cons_succ, List.setIfInBounds_toArray, List.set_cons_zero, List.set_cons_succ]
          refine wpAnyIn_take (i := 8) (v := ?_) rfl rfl (by kernel_rfl) (by kernel_rfl) (by kernel_rfl) (fun _ _ _ h => h) ⟨Or.inl ⟨by rfl, ?z8⟩, fun _ => rfl⟩ ?_
          case z8 =>
            intro w
            go_simp
            try (with_reducible rfl)
          try simp only [Act.put, List.getElem_toArray, List.getElem_cons_zero, List.getElem_cons_succ, List.setIfInBounds_toArray, List.set_cons_zero, List.set_cons_succ]
          refine wpAnyIn_done (by kernel_rfl) ?_ _
          have HEND : Hid (∃ (k1 : Nat) (xs1 : List (GrpI × Value)), k + 1 = k1 ∧ k1 ≤ P.length ∧ xs1.map Prod.fst = (P.map Prod.fst).take k1 ∧ J xs1 W6 ∧ keptS K W W6) := Lib.hid ⟨k + 1, xs ++ [((⟨s, d⟩ : GrpI), .slice a5 d.length c5)], rfl, hlt, HXS.out _, hJ6, fun q hq => (hk6 q hq).trans ((f5w.block q (HKW.out q hq) (fun h => h)).trans (HKP.out q hq))⟩
          clear hy hR hJ6 hk6 f5w hn5 cB0 o5 f5 n5 cA0 cA1 gA bA HM HFA HFD HCL HKW HJ HDL HXS
          refine hKo _ _ ?_
          clear hKo
          gi_wp2
          go_roundw
          case rel =>
            obtain ⟨k1, xs1, rfl, e1, e2, e3, e4⟩ := HEND.out
            exact ⟨k + 1, xs1, by go_num, e1, e2, e3, e4⟩
          case measure => simp [intOf]; omega
    · obtain rfl : k = P.length := by omega
      rw [List.take_of_length_le (by simp)] at hxs
      gi_wp2
      go_end0
      exact ⟨⟨_, rfl⟩, xs, wr, hxs, hJs, Frm.refl _ _⟩
end Go.Proofs.YtiokabhidjafeaaDoor

