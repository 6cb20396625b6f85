/- What path.names and path.Parse answer. No condition. -/
import Derived.Test.YtffhakomnkicoaaDoorParts
import Derived.Test.YtffhakomnkicoaaDoorRng
namespace Go.Proofs.YtffhakomnkicoaaDoor
open Go.RowKit Go.Shelf
attribute [local go_sem] Oper.semAt_some

theorem Tryd.info9s : (Tryd.prog.info? 9).map (fun i => (i.zero, i.size, i.bytes)) = some (some (.string ⟨#[]⟩), 1, 16) := by kernel_rfl
/-- Texts are appended. -/
theorem append_strs (w : World) (v x : Value) (l m : List (List UInt8)) (h : OwnS w v l) (hs : Strs w x m) (hb : l.length + m.length ≤ 1000000) :
    ∃ v' w', (Builtin.append_ #[23, 23] 23 #[v, x]).run Tryd.prog w = .ok v' w' ∧ OwnS w' v' (l ++ m) ∧ w.grownBy w' v.ownBlock ∧ (∀ g, v'.ownBlock = some g → v.ownBlock = some g ∨ w.heap.size ≤ g) := by
  obtain ⟨i0, hi, hz0, hz1, hz2⟩ := info_parts Tryd.info9s
  obtain ⟨v', w', h1, h2, h3, h4⟩ := run_append_row w 23 23 23 9 i0 (.string ⟨#[]⟩) 1 16 Tryd.underlying23 hi hz0 hz1 hz2 rfl h x m.length (strs m)
    (Sl.src hs Tryd.underlying23 (strs_one m)) (by unfold maxLen; omega) (by omega)
  exact ⟨v', w', h1, by unfold OwnS; rw [List.length_append, strs_append]; exact h2, h3, h4⟩
theorem Strs.one (w : World) (s : List UInt8) : Strs (w.alloc (.cells #[.string (bs s)] 9)) (.slice (some ⟨w.heap.size, 0, none⟩) 1 1) [s] := by
  refine ⟨rfl, _, 1, rfl, Nat.le_refl _, by decide, .inr ⟨_, 0, rfl, by simp, fun j hj => ?_⟩⟩
  obtain rfl : j = 0 := by simp at hj; omega
  exact (Blk.alloc w 9 #[.string (bs s)]).cell 0 rfl
/-- A call's answer: these texts, in new memory. -/
def NewS (l : List (List UInt8)) (w : World) (e : Ending) (w' : World) : Prop := ∃ v', e = .returned v' ∧ OwnS w' v' l ∧ Fr w w' ∧ ∀ g, v'.ownBlock = some g → w.heap.size ≤ g
/-- A call's answer: these texts, in new memory, and a number. -/
def NewSE (l : List (List UInt8)) (n : Nat) (w : World) (e : Ending) (w' : World) : Prop := ∃ v', e = .returned (.tuple #[v', .int .i64 n]) ∧ OwnS w' v' l ∧ Fr w w' ∧ ∀ g, v'.ownBlock = some g → w.heap.size ≤ g

/-- What is wrong with names, the first of which has i others above. -/
def fwalk : Nat → List (List UInt8) → Nat
  | _, [] => 0
  | i, s :: l => if flt s i ≠ 0 then flt s i else fwalk (i + 1) l
theorem fwalk_walk : ∀ (l : List (List UInt8)) (i : Nat), walk (i + 1) l = fwalk i l
  | [], _ => rfl
  | s :: l, i => by
    rw [walk, fwalk, fwalk_walk l (i + 1)]
    unfold flt
    by_cases h : chk s = 0
    · rw [if_neg (by omega : ¬ chk s ≠ 0), if_neg (by omega : ¬ chk s ≠ 0)]
      by_cases h4 : 4 ≤ i
      · rw [if_pos (by omega : 4 < i + 1), if_pos h4, if_pos (by omega)]
      · rw [if_neg (by omega : ¬ 4 < i + 1), if_neg h4, if_neg (by omega)]
    · rw [if_pos h, if_pos h, if_pos h]
theorem fwalk_app : ∀ (l m : List (List UInt8)) (i : Nat), fwalk i (l ++ m) = if fwalk i l ≠ 0 then fwalk i l else fwalk (i + l.length) m
  | [], m, i => by simp [fwalk]
  | s :: l, m, i => by
    rw [List.cons_append, fwalk, fwalk]
    by_cases h : flt s i = 0
    · have e1 : ∀ q, (if flt s i ≠ 0 then flt s i else q) = q := fun q => if_neg (fun e => e h)
      rw [e1, e1, fwalk_app l m (i + 1), List.length_cons, show i + 1 + l.length = i + (l.length + 1) by omega]
    · rw [if_pos h, if_pos h, if_pos h]
theorem fwalk_snoc {l : List (List UInt8)} (s : List UInt8) (h : fwalk 0 l = 0) : fwalk 0 (l ++ [s]) = flt s l.length := by
  rw [fwalk_app, h, if_neg (by simp), fwalk, fwalk, Nat.zero_add]
  split
  · rfl
  · omega
theorem flt_few {s : List UInt8} {i : Nat} (h : flt s i = 0) : i < 4 := by
  unfold flt at h
  split at h
  · omega
  · split at h
    · omega
    · omega
theorem fwalk_few : ∀ (l : List (List UInt8)) (i : Nat), fwalk i l = 0 → l = [] ∨ i + l.length ≤ 4
  | [], _, _ => .inl rfl
  | s :: l, i, h => by
    rw [fwalk] at h
    by_cases h1 : flt s i = 0
    · rw [if_neg (by omega)] at h
      have := flt_few h1
      rcases fwalk_few l (i + 1) h with rfl | h2
      · right; simp; omega
      · right; simp; omega
    · rw [if_pos h1] at h; omega
theorem fwalk_le {l : List (List UInt8)} (h : fwalk 0 l = 0) : l.length ≤ 4 := by
  rcases fwalk_few l 0 h with rfl | h
  · simp
  · omega
theorem flt_le (s : List UInt8) (i : Nat) : flt s i ≤ 4 := by
  have hc : chk s ≤ 4 := by
    unfold chk
    split
    · omega
    · split
      · split <;> omega
      · omega
  unfold flt
  split
  · exact hc
  · split <;> omega
theorem fwalk_pre {l m : List (List UInt8)} (h : l <+: m) (h0 : fwalk 0 l ≠ 0) : fwalk 0 m = fwalk 0 l := by
  obtain ⟨t, rfl⟩ := h
  rw [fwalk_app, if_pos h0]
/-- Between two rounds of names: these were names. -/
structure NamI (w : World) (pre : List (List UInt8)) (W : World) : Prop where
  ok : fwalk 0 pre = 0
  res : Blk W w.heap.size 23 #[.slice none 0 0]
  err : Blk W (w.heap.size + 1) 24 #[.int .i64 0]
  l : ∃ v, Blk W (w.heap.size + 1 + 1) 23 #[v] ∧ OwnS W v pre ∧ ∀ g, v.ownBlock = some g → w.heap.size + 3 ≤ g
  frm : Fr w W
/-- Where a round of names has left: the last part is none. -/
structure NamX (w : World) (pre : List (List UInt8)) (W : World) : Prop where
  bad : fwalk 0 pre ≠ 0
  res : Blk W w.heap.size 23 #[.slice none 0 0]
  err : Blk W (w.heap.size + 1) 24 #[.int .i64 (fwalk 0 pre : Nat)]
  frm : Fr w W
theorem NamI.own (w : World) (B : Nat) (hB : w.heap.size ≤ B) : OwnFrom B (NamI w) := fun _ _ _ _ h hg hr => by
  have hr2 := fun r e => (hr r e).2
  obtain ⟨v, h1, h2, h3⟩ := h.l
  exact ⟨h.ok, h.res.turned hg hr2, h.err.turned hg hr2, ⟨v, h1.turned hg hr2, Row.turned h2 hg hr2, h3⟩, h.frm.turned hB hg hr⟩
theorem NamX.own (w : World) (B : Nat) (hB : w.heap.size ≤ B) : OwnFrom B (NamX w) := fun _ _ _ _ h hg hr => by
  have hr2 := fun r e => (hr r e).2
  exact ⟨h.bad, h.res.turned hg hr2, h.err.turned hg hr2, h.frm.turned hB hg hr⟩

theorem NamI.step {w W Wa W2 : World} {pre : List (List UInt8)} {x : List UInt8} {v v' : Value} (hv : NamI w pre W) (hb : Blk W (w.heap.size + 1 + 1) 23 #[v]) (ho : OwnS W v pre) (hg : ∀ g, v.ownBlock = some g → w.heap.size + 3 ≤ g) (f1 : Fr W Wa)
    (hgr : Wa.grownBy W2 v.ownBlock) (hown : OwnS W2 v' (pre ++ [x])) (hnew : ∀ g, v'.ownBlock = some g → v.ownBlock = some g ∨ Wa.heap.size ≤ g) (hok : fwalk 0 (pre ++ [x]) = 0) :
    KeepsOthers W (W2.setCell ⟨w.heap.size + 1 + 1, 0, none⟩ v') ∧ True ∧ NamI w (pre ++ [x]) (W2.setCell ⟨w.heap.size + 1 + 1, 0, none⟩ v') := by
  have hX : Frm (fun k => v.ownBlock = some k) W W2 := (f1.mono (fun _ _ h => h.elim)).grown hgr (fun k _ e => e)
  have hX2 : Frm (fun k => k = w.heap.size + 1 + 1 ∨ v.ownBlock = some k) W (W2.setCell ⟨w.heap.size + 1 + 1, 0, none⟩ v') := (hX.mono (fun _ _ h => .inr h)).setCell (p := ⟨w.heap.size + 1 + 1, 0, none⟩) (fun _ => .inl rfl) _
  have hlt := hb.lt
  have hsz := f1.size
  have hg2 : ∀ g, v'.ownBlock = some g → w.heap.size + 3 ≤ g := fun g e => (hnew g e).elim (hg g) (fun e => by omega)
  refine ⟨hX2.others fun k o hk ho2 => ?_, trivial, hok, ?_, ?_, ⟨v', ?_, ?_, hg2⟩, ?_⟩
  · rcases hk with rfl | hk
    · exact hb.isCells _ o rfl ho2
    · exact Row.isCells ho k o hk ho2
  · exact (hv.res.keep hX fun e => by have := hg _ e; omega).other (p := ⟨w.heap.size + 1 + 1, 0, none⟩) (by simp; omega) _
  · exact (hv.err.keep hX fun e => by have := hg _ e; omega).other (p := ⟨w.heap.size + 1 + 1, 0, none⟩) (by simp) _
  · exact (hb.keep hX fun e => by have := hg _ e; omega).set 0 v'
  · exact Row.setOther (p := ⟨w.heap.size + 1 + 1, 0, none⟩) hown (fun e => by have := hg2 _ e; simp at this; omega) _
  · exact (hv.frm.next hX (fun k hk e => by have := hg k e; omega)).setCell (p := ⟨w.heap.size + 1 + 1, 0, none⟩) (fun h => absurd h (by simp; omega)) _
theorem NamI.stop {w W W1 : World} {pre : List (List UInt8)} {x : List UInt8} {n : Nat} (hv : NamI w pre W) (f1 : Fr W W1) (hn : n ≠ 0) (hsn : fwalk 0 (pre ++ [x]) = n) :
    KeepsOthers W ((W1.setCell ⟨w.heap.size, 0, none⟩ (.slice none 0 0)).setCell ⟨w.heap.size + 1, 0, none⟩ (.int .i64 n)) ∧ Code.ret = Code.ret ∧ NamX w (pre ++ [x]) ((W1.setCell ⟨w.heap.size, 0, none⟩ (.slice none 0 0)).setCell ⟨w.heap.size + 1, 0, none⟩ (.int .i64 n)) := by
  have hX2 : Frm (fun k => k = w.heap.size ∨ k = w.heap.size + 1) W ((W1.setCell ⟨w.heap.size, 0, none⟩ (.slice none 0 0)).setCell ⟨w.heap.size + 1, 0, none⟩ (.int .i64 n)) :=
    ((f1.mono (fun _ _ h => h.elim)).setCell (p := ⟨w.heap.size, 0, none⟩) (fun _ => .inl rfl) _).setCell (p := ⟨w.heap.size + 1, 0, none⟩) (fun _ => .inr rfl) _
  subst hsn
  refine ⟨hX2.others fun k o hk ho2 => ?_, rfl, hn, ?_, ?_, ?_⟩
  · rcases hk with rfl | rfl
    · exact hv.res.isCells _ o rfl ho2
    · exact hv.err.isCells _ o rfl ho2
  · exact ((hv.res.keep f1 (fun h => h)).set 0 _).other (p := ⟨w.heap.size + 1, 0, none⟩) (by simp) _
  · exact ((hv.err.keep f1 (fun h => h)).other (p := ⟨w.heap.size, 0, none⟩) (by simp) _).set 0 _
  · exact ((hv.frm.trans f1).setCell (p := ⟨w.heap.size, 0, none⟩) (fun h => absurd h (by simp)) _).setCell (p := ⟨w.heap.size + 1, 0, none⟩) (fun h => absurd h (by simp)) _

/-- What names answers. -/
def nams : List UInt8 → List (List UInt8) × Nat
  | [] => ([], 4)
  | c :: r => if c = 47 then (if fwalk 0 (pcs r) ≠ 0 then ([], fwalk 0 (pcs r)) else (pcs r, 0)) else ([], 4)

set_option maxRecDepth 100000 in
set_option maxHeartbeats 4000000 in
theorem names_yes (r : List UInt8) (w : World) (hl : r.length ≤ 1000) :
    Calls Tryd.prog 39 #[.string (bs (47 :: r))] w (NewSE (nams (47 :: r)).1 (nams (47 :: r)).2 w) := by
  have hn : nams (47 :: r) = if fwalk 0 (pcs r) ≠ 0 then ([], fwalk 0 (pcs r)) else (pcs r, 0) := rfl
  have hcp := fun w => cutPrefix_yes 47 r w
  have Hcp := Lib.hid hcp
  have Hn := Lib.hid hn
  clear hcp hn
  generalize hx : nams (47 :: r) = X at *
  clear hx
  generalize bs (47 :: r) = p at *
  refine (callsIn_wide (n := 9)).1 ?_
  refine callsIn_of_wp_marks Tryd.func39 rfl trivial ?_ rfl
  simp only [Tryd.ntmps39, List.size_toArray, List.length_cons, List.length_nil, Nat.reduceAdd, Nat.reduceSub, Array.replicate_succ, Array.replicate_zero, List.push_toArray, List.append_toArray, List.nil_append, List.cons_append]
  refine wpIn_wide.2 ?_
  refine Code.wp_mono calm_le ?_
  go_wp2_with fail
  refine (Hcp.out _).mono ?_
  rintro e w1 ⟨rfl, rfl⟩
  go_wp2_with fail
  refine (parts_any r _).mono ?_
  rintro e w2 ⟨rfl, rfl⟩
  go_wp2_with fail
  have g0 : Fr w (((((w.alloc (.cells #[.slice none 0 0] 23)).alloc (.cells #[.int .i64 0] 24)).alloc (.cells #[.slice none 0 0] 23))).alloc (.cells #[.string (bs r)] 9)) := ((((Frm.refl _ w).alloc _).alloc _).alloc _).alloc _
  have hBn := Blk.alloc ((((w.alloc (.cells #[.slice none 0 0] 23)).alloc (.cells #[.int .i64 0] 24)).alloc (.cells #[.slice none 0 0] 23))) 9 #[.string (bs r)]
  have hI0 : NamI w [] (((((w.alloc (.cells #[.slice none 0 0] 23)).alloc (.cells #[.int .i64 0] 24)).alloc (.cells #[.slice none 0 0] 23))).alloc (.cells #[.string (bs r)] 9)) := by
    refine ⟨rfl, (((Blk.alloc w _ _).old _).old _).old _, ?_, ⟨.slice none 0 0, ?_, OwnS.nil_ _, fun g hg => by cases hg⟩, g0⟩
    · have := (((Blk.alloc (w.alloc (.cells #[.slice none 0 0] 23)) 24 #[.int .i64 0]).old (.cells #[.slice none 0 0] 23)).old (.cells #[.string (bs r)] 9))
      simpa using this
    · have := (Blk.alloc ((w.alloc (.cells #[.slice none 0 0] 23)).alloc (.cells #[.int .i64 0] 24)) 23 #[.slice none 0 0]).old (.cells #[.string (bs r)] 9)
      simpa using this
  have hsz : ((((w.alloc (.cells #[.slice none 0 0] 23)).alloc (.cells #[.int .i64 0] 24)).alloc (.cells #[.slice none 0 0] 23))).heap.size = w.heap.size + 3 := by simp
  have hszy : (((((w.alloc (.cells #[.slice none 0 0] 23)).alloc (.cells #[.int .i64 0] 24)).alloc (.cells #[.slice none 0 0] 23))).alloc (.cells #[.string (bs r)] 9)).heap.size = w.heap.size + 4 := by simp
  rw [hsz] at hBn
  generalize (((((w.alloc (.cells #[.slice none 0 0] 23)).alloc (.cells #[.int .i64 0] 24)).alloc (.cells #[.slice none 0 0] 23))).alloc (.cells #[.string (bs r)] 9)) = wy at *
  have hwy : w.heap.size ≤ wy.heap.size := by omega
  have HSZ := Lib.hid hszy
  clear hszy hsz
  refine (wpIn_wide (n := 9)).1 ?_
  refine wpIn_rangeFunc_ownF rfl (by omega) (gf := 74) (lb := #[.pointer (some ⟨w.heap.size + 3, 0, none⟩)]) rfl trivial (enters_of Tryd.func74 (by kernel_rfl) rfl)
    (parts_stops (w.heap.size + 3) r wy hBn hl) (fun _ _ => trivial) (fun _ _ _ _ _ _ _ _ => trivial) (Below.refl _ _) (fun _ => rfl)
    (NamI w) (fun c pre W => c = .ret ∧ NamX w pre W) (NamI.own w _ hwy) (fun c => OwnFrom.and (fun _ _ _ _ e _ _ => e) (NamX.own w _ hwy)) hI0 ?a1 ?assign ?body ?done ?stop
  case assign =>
    intro l0 x W K hK
    gi_wp2
    exact hK
  case body =>
    rintro l0 pre x W hv _
    obtain ⟨v, hb, ho, hg⟩ := hv.l
    have hle := fwalk_le hv.ok
    obtain ⟨a, cap, rfl, hc1, hc2⟩ := Row.slice ho
    have cl : W.cell? ⟨w.heap.size + 1 + 1, 0, none⟩ = some (.slice a pre.length cap) := hb.cell 0 rfl
    have hf := fun W => fault_any x pre.length W
    have hsn := fwalk_snoc x hv.ok
    have HSN := Lib.hid hsn
    have Hf := Lib.hid hf
    clear hsn hf
    by_cases hn : flt x pre.length = 0
    · rw [hn] at HSN Hf
      clear hn
      gi_wp2_with fail
      refine ⟨trivial, (CallsIn.inRound l0 (callsIn_wide.2 (Hf.out _))).mono ?_⟩
      rintro e W1 ⟨rfl, f1⟩
      have hb1 := hb.keep f1 (fun h => h)
      have ho1 := ho.keep f1 (fun _ _ h => h)
      have cl1 : W1.cell? ⟨w.heap.size + 1 + 1, 0, none⟩ = some (.slice a pre.length cap) := hb1.cell 0 rfl
      have fl1 := hb1.free 0
      have f2 := f1.alloc (.cells #[.string (bs x)] 9)
      obtain ⟨v', W2, hrun, hown, hgr, hnew⟩ := append_strs _ _ _ _ _ (ho1.keep ((Frm.refl _ W1).alloc (.cells #[.string (bs x)] 9)) (fun _ _ h => h)) (Strs.one W1 x) (by simp; omega)
      have hstep := hv.step hb ho hg f2 hgr hown hnew HSN.out
      obtain ⟨a2, cap2, rfl, _, _⟩ := Row.slice hown
      have el : (pre ++ [x]).length = pre.length + 1 := by simp
      rw [el] at hrun hstep
      clear el
      have hb2 : Blk W2 (w.heap.size + 1 + 1) 23 #[.slice a pre.length cap] := (hb1.old _).keep ((Frm.refl (fun k => Value.ownBlock (.slice a pre.length cap) = some k) _).grown hgr (fun k _ e => e)) (fun e => by have := hg _ e; omega)
      have cl2 : W2.cell? ⟨w.heap.size + 1 + 1, 0, none⟩ = some (.slice a pre.length cap) := hb2.cell 0 rfl
      have fl2 := hb2.free 0
      have Hrun := Lib.hid hrun
      have Hst := Lib.hid hstep
      clear hrun hstep hown hnew hgr hb2 hb1 ho1
      gi_wp2_with (refine wpListIn_append_run rfl _ _ _ _ rfl _ _ rfl rfl _ _ Hrun.out ?_)
      exact Hst.out
    · have hq : ((flt x pre.length : Int) != 0) = true := by simp; exact hn
      generalize flt x pre.length = n at *
      have Hn0 := Lib.hid hn
      clear hn
      have hr1 := hv.res
      have he1 := hv.err
      gi_wp2_with fail
      refine ⟨trivial, (CallsIn.inRound l0 (callsIn_wide.2 (Hf.out _))).mono ?_⟩
      rintro e W1 ⟨rfl, f1⟩
      have hr2 := hr1.keep f1 (fun h => h)
      have he2 := he1.keep f1 (fun h => h)
      have cr := hr2.cell 0 rfl
      have fr := hr2.free 0
      have ce := he2.cell 0 rfl
      have fe := he2.free 0
      gi_wp2
      exact hv.stop f1 Hn0.out HSN.out
  case done =>
    rintro D xs W hD rfl hv hK
    obtain ⟨v, hb, ho, hg⟩ := hv.l
    have hDlt := (Array.getElem?_eq_some_iff.1 hK).1
    obtain ⟨a, cap, rfl, hc1, hc2⟩ := Row.slice ho
    have cl : W.cell? ⟨w.heap.size + 1 + 1, 0, none⟩ = some (.slice a (pcs r).length cap) := hb.cell 0 rfl
    have hr2 := hv.res
    have he2 := hv.err
    have cr := hr2.cell 0 rfl
    have fr := hr2.free 0
    have ce := he2.cell 0 rfl
    have fe := he2.free 0
    have HOK := Lib.hid hv.ok
    go_wp2_with fail
    refine calm_ret ?_
    have hK' := (KeepsOthers.trans (KeepsOthers.setCell W ⟨w.heap.size, 0, none⟩ (.slice a (pcs r).length cap)) (KeepsOthers.setCell _ ⟨w.heap.size + 1, 0, none⟩ (.int .i64 0))).same D _ hK rfl
    have hgp := grownBy_putObj' ((W.setCell ⟨w.heap.size, 0, none⟩ (.slice a (pcs r).length cap)).setCell ⟨w.heap.size + 1, 0, none⟩ (.int .i64 0)) D (.deferred none)
    have hrow : ∀ q, some D = some q → ∃ o : Obj, ((W.setCell ⟨w.heap.size, 0, none⟩ (.slice a (pcs r).length cap)).setCell ⟨w.heap.size + 1, 0, none⟩ (.int .i64 0)).heap[q]? = some o ∧ o.isCells = false := fun q e => by cases e; exact ⟨_, hK', rfl⟩
    have c0 := (((hr2.set 0 (.slice a (pcs r).length cap)).other (p := ⟨w.heap.size + 1, 0, none⟩) (by simp) (.int .i64 0)).turned hgp hrow).cell 0 rfl
    have c1 := (((he2.other (p := ⟨w.heap.size, 0, none⟩) (by simp) (.slice a (pcs r).length cap)).set 0 (.int .i64 0)).turned hgp hrow).cell 0 rfl
    have ho3 : OwnS _ (.slice a (pcs r).length cap) (pcs r) := Row.turned (Row.setOther (p := ⟨w.heap.size + 1, 0, none⟩) (Row.setOther (p := ⟨w.heap.size, 0, none⟩) ho (fun e => by have h9 : w.heap.size + 3 ≤ w.heap.size := hg _ e; omega) (.slice a (pcs r).length cap)) (fun e => by have h9 : w.heap.size + 3 ≤ w.heap.size + 1 := hg _ e; omega) (.int .i64 0)) hgp hrow
    have hf3 : Fr w _ := ((hv.frm.setCell (p := ⟨w.heap.size, 0, none⟩) (fun h => absurd h (by simp)) (.slice a (pcs r).length cap)).setCell (p := ⟨w.heap.size + 1, 0, none⟩) (fun h => absurd h (by simp)) (.int .i64 0)).grown hgp (fun k hk e => by cases e; omega)
    have hX : X = (pcs r, 0) := by rw [Hn.out, if_neg (fun e => e HOK.out)]
    refine ⟨by simp, .inl ⟨_, _, rfl, run_takeDeferred hK', ?_⟩⟩
    refine ⟨.tuple #[.slice a (pcs r).length cap, .int .i64 0], by simp [results, Tryd.results39, go_sem, c0, c1], ?_⟩
    subst hX
    exact ⟨_, rfl, ho3, hf3, fun g e => by have := hg g e; omega⟩
  case stop =>
    rintro D c pre W hD hS ⟨rfl, hx⟩ hK
    have hgp := grownBy_putObj' W D (.deferred none)
    have hrow : ∀ q, some D = some q → ∃ o : Obj, W.heap[q]? = some o ∧ o.isCells = false := fun q e => by cases e; exact ⟨_, hK, rfl⟩
    have c0 := (hx.res.turned hgp hrow).cell 0 rfl
    have c1 := (hx.err.turned hgp hrow).cell 0 rfl
    have hf3 : Fr w _ := hx.frm.grown hgp (fun k hk e => by cases e; omega)
    have hpre := fwalk_pre hS.1 hx.bad
    have hX : X = ([], fwalk 0 pre) := by rw [Hn.out, hpre, if_pos hx.bad]
    generalize fwalk 0 pre = n at *
    refine wpIn_wide.2 ?_
    go_wp2_with fail
    refine calm_ret ?_
    refine ⟨by simp, .inl ⟨_, _, rfl, run_takeDeferred hK, ?_⟩⟩
    refine ⟨.tuple #[.slice none 0 0, .int .i64 n], by simp [results, Tryd.results39, go_sem, c0, c1], ?_⟩
    subst hX
    exact ⟨_, rfl, OwnS.nil_ _, hf3, fun g e => by cases e⟩

set_option maxRecDepth 100000 in
set_option maxHeartbeats 4000000 in
theorem names_no (s : List UInt8) (w : World) (h : s.head? ≠ some 47) :
    Calls Tryd.prog 39 #[.string (bs s)] w (NewSE (nams s).1 (nams s).2 w) := by
  have hn : nams s = ([], 4) := by
    cases s with
    | nil => rfl
    | cons c r =>
      show (if c = 47 then (if fwalk 0 (pcs r) ≠ 0 then ([], fwalk 0 (pcs r)) else (pcs r, 0)) else ([], 4)) = ([], 4)
      rw [if_neg (fun e => h (by rw [e]; rfl))]
  rw [hn]
  clear hn
  refine (callsIn_wide (n := 9)).1 ?_
  refine callsIn_of_wp_marks Tryd.func39 rfl trivial ?_ rfl
  simp only [Tryd.ntmps39, List.size_toArray, List.length_cons, List.length_nil, Nat.reduceAdd, Nat.reduceSub, Array.replicate_succ, Array.replicate_zero, List.push_toArray, List.append_toArray, List.nil_append, List.cons_append]
  refine wpIn_wide.2 ?_
  refine Code.wp_mono calm_le ?_
  go_wp2_with fail
  refine (cutPrefix_no 47 s _ h).mono ?_
  rintro e w1 ⟨rfl, rfl⟩
  go_wp2_with fail
  refine calm_ret ?_
  have c0 := ((Blk.alloc w 23 #[.slice none 0 0]).old (.cells #[.int .i64 4] 24)).cell 0 rfl
  have c1 := (Blk.alloc (w.alloc (.cells #[.slice none 0 0] 23)) 24 #[.int .i64 4]).cell 0 rfl
  simp only [World.size_alloc] at c1
  exact ⟨.tuple #[.slice none 0 0, .int .i64 4], by simp [results, Tryd.results39, go_sem, c0, c1], _, rfl, OwnS.nil_ _, ((Frm.refl _ w).alloc _).alloc _, fun g e => by cases e⟩

theorem names_any (s : List UInt8) (w : World) (hl : s.length ≤ 1000) :
    Calls Tryd.prog 39 #[.string (bs s)] w (NewSE (nams s).1 (nams s).2 w) := by
  by_cases h : s.head? = some 47
  · cases s with
    | nil => cases h
    | cons c r =>
      obtain rfl : c = 47 := by simpa using h
      exact names_yes r w (by simp at hl; omega)
  · exact names_no s w h

/-- Parse's answer, by what names answers. -/
theorem parse_nams (s : List UInt8) : parse s = if 36 < s.length then ([], 3) else nams s := by
  unfold parse
  by_cases hl : 36 < s.length
  · rw [if_pos hl, if_pos hl]
  · rw [if_neg hl, if_neg hl]
    cases s with
    | nil => rfl
    | cons c r =>
      show _ = (if c = 47 then (if fwalk 0 (pcs r) ≠ 0 then ([], fwalk 0 (pcs r)) else (pcs r, 0)) else ([], 4))
      by_cases hc : c = 47
      · subst hc
        obtain ⟨a, t, e⟩ := cut_cons 47 r
        have e2 : cut 47 (47 :: r) = [] :: cut 47 r := by rw [cut, if_pos rfl]
        rw [e2, if_pos rfl, if_neg (by rw [e]; simp)]
        unfold pcs
        by_cases hr : r = []
        · subst hr; rfl
        · rw [if_neg (by simpa using hr), if_neg hr, List.tail_cons, fwalk_walk]
      · obtain ⟨a, t, e⟩ := cut_cons 47 r
        rw [if_neg hc, cut, if_neg hc, if_pos (.inr (by simp))]
set_option maxRecDepth 100000 in
set_option maxHeartbeats 1000000 in
theorem parse_any (s : List UInt8) (w : World) (hl : s.length ≤ 1000) :
    Calls Tryd.prog 11 #[.string (bs s)] w (NewSE (parse s).1 (parse s).2 w) := by
  rw [parse_nams]
  have hsz : ((bs s).size : Int) = s.length := rfl
  by_cases h : 36 < s.length
  · rw [if_pos h]
    have h1 : (36 : Int) < ((bs s).size : Int) := by omega
    clear hsz
    go_enter Tryd.func11, Tryd.ntmps11
    go_wp2
    go_ret2
    exact ⟨_, rfl, OwnS.nil_ _, Frm.refl _ _, fun g e => by cases e⟩
  · rw [if_neg h]
    have h1 : ((bs s).size : Int) ≤ 36 := by omega
    have hn := fun w => names_any s w hl
    have Hn := Lib.hid hn
    clear hn hsz h
    go_enter Tryd.func11, Tryd.ntmps11
    go_wp2_with fail
    refine (Hn.out _).mono ?_
    rintro e w1 ⟨v, rfl, o1, f1, n1⟩
    go_wp2_with fail
    go_ret2
    exact ⟨_, rfl, o1, f1, n1⟩
end Go.Proofs.YtffhakomnkicoaaDoor
