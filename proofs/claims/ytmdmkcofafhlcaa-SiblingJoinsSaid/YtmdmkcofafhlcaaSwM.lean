/- Map of a register, of a function that panics not; what is gone through. No condition. -/
import Derived.Test.YtmdmkcofafhlcaaInR
import Derived.Test.YtmdmkcofafhlcaaSwA
namespace Go.Proofs.Ytmdmkcofafhlcaa
open Go.RowKit Go.Shelf
attribute [local go_sem] Oper.semAt_some

/-- A sibling whose value is its text's length. -/
def intc (x : SibI) : List Value := [.int .u8 x.r, .int .u32 x.n, .int .i64 (x.s.length : Int)]
theorem intc_len (x : SibI) : (intc x).length = 3 := rfl
theorem intc_one (x : SibI) : ∀ u ∈ intc x, u.oneCell' = true := fun u hu => by
  simp [intc] at hu
  rcases hu with rfl | rfl | rfl <;> rfl
def IL (w : World) (v : Value) (l : List SibI) : Prop := Sl w 3 v l.length (flat intc l)
def OwnI (w : World) (v : Value) (l : List SibI) : Prop := Row w 3 v l.length (flat intc l)
theorem IL.keepF {w w' : World} {v : Value} {l : List SibI} (h : IL w v l) (hf : Frm (fun _ => False) w w') : IL w' v l := Sl.keepF h hf
theorem OwnI.keep {X : Nat → Prop} {w w' : World} {v : Value} {l : List SibI} (h : OwnI w v l) (hf : Frm X w w') (hn : ∀ g, v.ownBlock = some g → ¬ X g) : OwnI w' v l := Row.keep h hf hn
theorem OwnI.nil_ (w : World) : OwnI w (.slice none 0 0) [] := Row.nil_ w 3
theorem OwnI.il {w : World} {v : Value} {l : List SibI} (h : OwnI w v l) : IL w v l := Sl.ofRow h
theorem IL.one (w : World) (T : TypeId) (x : SibI) : IL (w.alloc (.cells #[.int .u8 x.r, .int .u32 x.n, .int .i64 (x.s.length : Int)] T)) (.slice (some ⟨w.heap.size, 0, none⟩) 1 1) [x] :=
  Sl.built intc intc_len w T x #[.int .u8 x.r, .int .u32 x.n, .int .i64 (x.s.length : Int)] rfl
theorem Try.infoSI : (Try.prog.info? 74).map (fun i => (i.zero, i.size, i.bytes)) = some (some (.agg #[.int .u8 0, .int .u32 0, .int .i64 0]), 3, 16) := by kernel_rfl
theorem append_ints (w : World) (v x : Value) (l m : List SibI) (h : OwnI w v l) (hs : IL w x m) (hb : l.length + m.length ≤ 1000000) :
    ∃ v' w', (Builtin.append_ #[68, 68] 68 #[v, x]).run Try.prog w = .ok v' w' ∧ OwnI w' v' (l ++ m) ∧ w.grownBy w' v.ownBlock ∧ (∀ g, v'.ownBlock = some g → v.ownBlock = some g ∨ w.heap.size ≤ g) := by
  obtain ⟨i0, hi, hz0, hz1, hz2⟩ := info_parts Try.infoSI
  obtain ⟨v', w', h1, h2, h3, h4⟩ := run_append_row w 68 68 68 74 i0 (.agg #[.int .u8 0, .int .u32 0, .int .i64 0]) 3 16 Try.underlying68 hi hz0 hz1 hz2 rfl h x m.length (flat intc m)
    (Sl.src hs Try.underlying68 (flat_one intc intc_one m)) (by unfold maxLen; omega) (by omega)
  exact ⟨v', w', h1, by unfold OwnI; rw [List.length_append, flat_append]; exact h2, h3, h4⟩
theorem load_ireg {w : World} {b : Nat} {f : Nat → Nat} {v : Value} (h : Blk w b 70 (rgc f v)) : (Instr.loadAt 70 (.pointer (some ⟨b, 0, none⟩))).run Try.prog w = .ok (rg f v) w :=
  run_loadAt_mid w b 0 70 (rgc f v).toList _ (fun j u hu => by rw [Nat.zero_add]; exact h.cell j (by rw [← Array.getElem?_toList]; exact hu)) Try.underlying70 rfl (by show _ = some 9; kernel_rfl)
theorem load_ictx {w : World} {b : Nat} {f : Nat → Nat} {v : Value} (h : Blk w b 70 (rgc f v)) : (Instr.loadAt 24 (.pointer (some ⟨b, 0, none⟩))).run Try.prog w = .ok (.agg (vv f)) w :=
  run_loadAt_mid w b 0 24 (vv f).toList _ (fun j u hu => by
    have hj : j < 8 := by
      rcases Nat.lt_or_ge j 8 with h | h
      · exact h
      · rw [List.getElem?_eq_none (by simp; omega)] at hu; cases hu
    rw [Array.getElem?_toList] at hu
    rw [Nat.zero_add]
    refine h.cell j (?_ : (rgc f v)[j]? = some u)
    rcases lt8 hj with rfl | rfl | rfl | rfl | rfl | rfl | rfl | rfl <;> exact hu) Try.underlying24 rfl (by show _ = some 8; kernel_rfl)
/-- A list of the call's own in a register's block. -/
structure FillI (n1 B : Nat) (f : Nat → Nat) (l : List SibI) (v : Value) (W : World) : Prop where
  blk : Blk W B 70 (rgc f v)
  own : OwnI W v l
  out : ∀ g, v.ownBlock = some g → n1 ≤ g
section
variable {ops : Array Oper} {Q : Exit → Act → World → Prop} {r m : Nat} {a : Act} {w W : World}
theorem tail_fillI {o1 o2 o3 : Oper} {x1 y1 x2 y2 : Operand} {d1 d2 : Tmp} (n1 B : Nat) (f : Nat → Nat) (l ms : List SibI) (hb : l.length + ms.length ≤ 1000000) (v u : Value) (hBn : B < n1)
    (i1 : ops[r]? = some o1) (i2 : ops[r + 1]? = some o2) (i3 : ops[r + 1 + 1]? = some o3) (g1 : o1.guard = none) (g2 : o2.guard = none) (g3 : o3.guard = none) (m1 : o1.dst = some d1) (m2 : o2.dst = some d2) (m3 : o3.dst = none)
    (p1 : o1.op = .call ⟨.builtin .append, #[x1, y1], #[68, 68]⟩) (t1 : o1.type = 68) (p3 : o3.op = .store 68 x2 y2)
    (hx1 : a.eval x1 = v) (hy1 : a.eval y1 = u) (h : FillI n1 B f l v W) (hW : n1 ≤ W.heap.size) (hs : IL W u ms)
    (h2 : ∀ v' W', (execOp (a.put (some d1) v').eval o2).run Try.prog W' = .ok (.value (.pointer (some ⟨B, 8, none⟩))) W')
    (hx2 : ∀ v', ((a.put (some d1) v').put (some d2) (.pointer (some ⟨B, 8, none⟩))).eval x2 = .pointer (some ⟨B, 8, none⟩)) (hy2 : ∀ v', ((a.put (some d1) v').put (some d2) (.pointer (some ⟨B, 8, none⟩))).eval y2 = v')
    (hK : ∀ v' W', FillI n1 B f (l ++ ms) v' W' → Frm (fun k => k = B ∨ v.ownBlock = some k) W W' → Q .normal ((a.put (some d1) v').put (some d2) (.pointer (some ⟨B, 8, none⟩))) W') : wpTail Try.prog ops Q r 3 a W := by
  obtain ⟨v', W1, hrun, o1', gr, nb⟩ := append_ints W v u l ms h.own hs hb
  obtain ⟨L, hL⟩ : ∃ L, l ++ ms = L := ⟨_, rfl⟩
  rw [hL] at o1' hK
  refine wpTail.cons i1 g1 fun K hK1 => ?_
  refine Lib.wp_append_run W x1 y1 _ _ p1 v u hx1 hy1 v' W1 (by rw [t1]; exact hrun) ?_
  rw [m1]
  refine hK1 _ _ ?_
  have hX : Frm (fun k => k = B ∨ v.ownBlock = some k) W W1 := (Frm.refl _ W).grown gr (fun k _ e => .inr e)
  have hX1 : Frm (fun k => v.ownBlock = some k) W W1 := (Frm.refl _ W).grown gr (fun k _ e => e)
  have b1 := h.blk.keep hX1 (fun e => by have := h.out _ e; omega)
  obtain ⟨a6, c6, rfl, _, _⟩ := Row.slice o1'
  have nn : ∀ g, (Value.slice a6 L.length c6).ownBlock = some g → n1 ≤ g := fun g e => (nb g e).elim (fun e => h.out g e) (fun e => by omega)
  refine wpTail.val i2 g2 m2 (h2 _ W1) ?_
  have c0 := b1.cell 8 rfl
  have f0 := b1.free 8
  have a3 := Try.isAgg68
  have z3 := Try.sizeOf68
  refine wpTail.cons i3 g3 fun K hK' => ?_
  unfold Oper.wp execOp
  simp only [p3, hx2, hy2]
  go_simp
  refine hK' _ _ (hK _ _ ⟨b1.set 8 _, ?_, nn⟩ (hX.setCell (p := ⟨B, 8, none⟩) (fun _ => .inl rfl) _))
  exact Row.setOther (p := ⟨B, 8, none⟩) o1' (fun e => by have := nn _ e; simp at this; omega) _
end
/-- What lies between two rounds. -/
structure MpI (w : World) (n1 B : Nat) (f : Nat → Nat) (c : Value) (pre : List SibI) (W : World) : Prop where
  res : ∃ u, FillI n1 B f pre u W
  fn : Blk W (w.heap.size + 1) 72 #[c]
  ret : Blk W (w.heap.size + 1 + 1) 70 rz
  frm : Frm (fun _ => False) w W
  size : n1 ≤ W.heap.size
theorem MpI.own (w : World) (n1 B0 : Nat) (f : Nat → Nat) (c : Value) (B : Nat) (hB : w.heap.size ≤ B) : OwnFrom B (MpI w n1 B0 f c) := fun _ _ _ _ h hg hr => by
  have hr2 := fun r e => (hr r e).2
  obtain ⟨u, h1, h2, h3⟩ := h.res
  exact ⟨⟨u, h1.turned hg hr2, Row.turned h2 hg hr2, h3⟩, h.fn.turned hg hr2, h.ret.turned hg hr2, h.frm.turned hB hg hr, Nat.le_trans h.size hg.size⟩
def mp5M : List Nat := [1, 3, 4, 8, 16, 56, 124, 252, 511, 767, 1279]
def mp5R (u' : Value) (B5 : Nat) (x : SibI) : List ((Nat → Value) → World → Prop) := [
  fun val _ => val 0 = .pointer (some ⟨B5, 8, none⟩),
  fun val _ => val 1 = u',
  fun val _ => val 2 = .agg (dv x.r x.n),
  fun val _ => val 3 = .func (.func 35) #[] #[],
  fun val _ => val 4 = .string (bs x.s),
  fun val _ => val 5 = .int .i64 (x.s.length : Int),
  fun val _ => val 6 = .agg #[.int .u8 x.r, .int .u32 x.n, .int .i64 (x.s.length : Int)],
  fun val W => ∃ z, (val 7) = z ∧ IL W z [x]]

set_option maxRecDepth 100000 in
set_option maxHeartbeats 4000000 in
theorem smap_any (f : Nat → Nat) (v : Value) (l : List SibI) (w : World) (h : SL w v l) (hb : l.length ≤ 1000) :
    Calls Try.prog 34 #[rg f v, (.func (.func 35) #[] #[])] w fun e w' => ∃ v', e = .returned (rg f v') ∧ OwnI w' v' l ∧ Frm (fun _ => False) w w' ∧ ∀ g, v'.ownBlock = some g → w.heap.size ≤ g := by
  refine (callsIn_wide (n := 9)).1 ?_
  refine callsIn_of_wp_marks Try.func34 rfl trivial ?_ rfl
  simp only [Try.ntmps34, List.size_toArray, List.length_cons, List.length_nil, Nat.reduceAdd, Nat.reduceSub, Array.replicate_succ, Array.replicate_zero, List.push_toArray, List.append_toArray, List.nil_append, List.cons_append]
  have g0 : Frm (fun _ => False) w ((((w.alloc (.cells (rgc f v) 39)).alloc (.cells #[(.func (.func 35) #[] #[])] 72)).alloc (.cells rz 70)).alloc (.cells (rgc f (.slice none 0 0)) 70)) := ((((Frm.refl _ w).alloc _).alloc _).alloc _).alloc _
  have d1 : Blk ((((w.alloc (.cells (rgc f v) 39)).alloc (.cells #[(.func (.func 35) #[] #[])] 72)).alloc (.cells rz 70)).alloc (.cells (rgc f (.slice none 0 0)) 70)) (w.heap.size + 1) 72 #[(.func (.func 35) #[] #[])] := ((Blk.at1 w _ _ _).old _).old _
  have d2 : Blk ((((w.alloc (.cells (rgc f v) 39)).alloc (.cells #[(.func (.func 35) #[] #[])] 72)).alloc (.cells rz 70)).alloc (.cells (rgc f (.slice none 0 0)) 70)) (w.heap.size + 1 + 1) 70 rz := (Blk.at2 w _ _ _ _).old _
  have d3 : Blk ((((w.alloc (.cells (rgc f v) 39)).alloc (.cells #[(.func (.func 35) #[] #[])] 72)).alloc (.cells rz 70)).alloc (.cells (rgc f (.slice none 0 0)) 70)) (w.heap.size + 1 + 1 + 1) 70 (rgc f (.slice none 0 0)) := by
    have := Blk.alloc (((w.alloc (.cells (rgc f v) 39)).alloc (.cells #[(.func (.func 35) #[] #[])] 72)).alloc (.cells rz 70)) 70 (rgc f (.slice none 0 0))
    simpa using this
  have hz : ((((w.alloc (.cells (rgc f v) 39)).alloc (.cells #[(.func (.func 35) #[] #[])] 72)).alloc (.cells rz 70)).alloc (.cells (rgc f (.slice none 0 0)) 70)).heap.size = w.heap.size + 4 := by simp
  have hs0 := h.keepF g0
  refine wpIn_wide.2 ?_
  refine Code.wp_mono calmR_le ?_
  go_wp2_with fail
  refine (sall_any f v l _ hs0 (by omega)).mono ?_
  rintro e w1 ⟨B, u, rfl, hB0, hB1, hu, hub, g1⟩
  go_wp2_with fail
  refine (wpIn_wide (n := 9)).1 ?_
  rw [hz] at hB0 hub
  have d1 := d1.keep g1 (fun h => h)
  have d2 := d2.keep g1 (fun h => h)
  have d3 := d3.keep g1 (fun h => h)
  have k1 := g0.trans g1
  have hsz := k1.size
  have hlt2 := d3.lt
  clear g0 g1 hz hs0
  have hKlt : ∀ q, blkOf u = some q → q < w1.heap.size := fun q e => (hub q e).2.2
  have hK3 : ∀ q, blkOf u = some q → w.heap.size + 4 ≤ q := fun q e => (hub q e).1
  refine wpIn_rangeFunc_ownH rfl (by omega) (gf := 84) (lb := #[.pointer (some ⟨B, 0, none⟩)]) rfl trivial (enters_of Try.func84 (by kernel_rfl) rfl)
    (sall_stops B u l (fun q => blkOf u = some q) w1 hB1 hu hKlt (fun g hg => hg)) keptS.trans (keptS.put hKlt) (Below.refl _ _) (fun _ => rfl)
    (MpI w w1.heap.size (w.heap.size + 1 + 1 + 1) f (.func (.func 35) #[] #[])) (fun _ _ _ => False) (MpI.own w _ _ f _ _ hsz) (fun _ _ _ _ _ h _ _ => h) ⟨⟨_, d3, OwnI.nil_ _, fun g hg => by cases hg⟩, d1, d2, k1, Nat.le_refl _⟩
    (fun x a' W => ∃ Bx, w1.heap.size ≤ Bx ∧ Blk W Bx 27 (dv x.r x.n) ∧ a' = { tmps := #[rg f v, (.func (.func 35) #[] #[]), .pointer (some ⟨w.heap.size, 0, none⟩), .pointer (some ⟨w.heap.size + 1, 0, none⟩), .pointer (some ⟨w.heap.size + 1 + 1, 0, none⟩), .pointer (some ⟨w.heap.size + 1 + 1 + 1, 0, none⟩), .pointer (some ⟨Bx, 0, none⟩), .string (bs x.s), .pointer (some ⟨w.heap.size, 0, none⟩), .agg (vv f), rg f (.slice none 0 0), rg f v, .func (.func 84) #[] #[.pointer (some ⟨B, 0, none⟩)], .agg (dv x.r x.n), .string (bs x.s), undef, undef, undef, undef, undef, undef, undef, undef, undef, undef, undef], defers := [] })
    (fun x a' _ X Y row hs hg hr => by obtain ⟨Bx, h1, h2, h3⟩ := hs; exact ⟨Bx, h1, h2.turned hg (fun r e => (hr r e).2), h3⟩) ?assign ?body ?done ?stop
  case assign =>
    rintro l0 pre x W K hi hK
    gi_wp2
    have hs := hi.size
    exact hK _ _ ((KeepsOthers.alloc _ _).from _) (fun q hq => Below.heap_alloc _ _ _ (by have := hKlt q hq; omega)) ((MpI.own w _ _ f _ _ hsz).alloc _ hi) ⟨W.heap.size, hs, Blk.alloc W _ _, rfl⟩
  case body =>
    rintro l0 pre x a' wr hl hrec hi ⟨Bx, hBx, bX, rfl⟩ hlt
    obtain ⟨u', hfi⟩ := hi.res
    obtain ⟨B5, hB5⟩ : ∃ B5, w.heap.size + 1 + 1 + 1 = B5 := ⟨_, rfl⟩
    have hlt3 : B5 < w1.heap.size := by omega
    rw [hB5] at hfi
    have HR : Hid (∀ W, Frm (fun _ => False) wr W → FillI w1.heap.size B5 f pre u' W) := Lib.hid fun W g => ⟨hfi.blk.keep g (fun h => h), hfi.own.keep g (fun _ _ h => h), hfi.out⟩
    have HX : Hid (∀ W, Frm (fun _ => False) wr W → Blk W Bx 27 (dv x.r x.n)) := Lib.hid fun W g => bX.keep g (fun h => h)
    have HF : Hid (∀ W, Frm (fun _ => False) wr W → Blk W (w.heap.size + 1) 72 #[(.func (.func 35) #[] #[])]) := Lib.hid fun W g => hi.fn.keep g (fun h => h)
    have HI := Lib.hid hi
    have HB5 := Lib.hid hB5
    obtain ⟨M, hM⟩ : ∃ M, w.heap.size + 1 = M := ⟨_, rfl⟩
    have HM := Lib.hid hM
    rw [hM] at HF
    rw [hB5, hM]
    have HC := Lib.hid (And.intro hfi.blk.isCells (Row.isCellsR hfi.own))
    have D : Frm (fun _ => False) wr wr.drew := (Frm.refl _ _).drew
    clear hfi hi hM hB5 bX hrec
    refine wpIn_block ?_
    refine wpIn_region_late 8 3 [] [[], [0], [], [], [], [3, 4], [2, 5], [6]] mp5M (mp5R u' B5 x) (by rintro ⟨_, _, h⟩; exact h) (by kernel_rfl) (by kernel_rfl) rfl rfl rfl (by kernel_rfl) (by kernel_rfl) (by kernel_rfl) (by kernel_rfl) rfl (by kernel_rfl) (by kernel_rfl) (by kernel_rfl) (by kernel_rfl) (fun val => ?_) ?_
    · try simp only [Act.put, List.setIfInBounds_toArray, List.set_cons_zero, List.set_cons_succ]
      refine RelO.next (k' := 1) rfl (fun W gW hF => ?_) ?_
      focus
        refine OpOK.val (u := .pointer (some ⟨B5, 8, none⟩)) (by rfl) ?_ (fun W' _ => rfl)
        try simp only [tupAt]
        first | (go_simp; done) | (go_simp; with_reducible rfl) | (go_simp; rfl)
      try simp only [Act.put, List.setIfInBounds_toArray, List.set_cons_zero, List.set_cons_succ]
      refine RelO.next (k' := 2) rfl (fun W gW hF => ?_) ?_
      focus
        obtain ⟨h0, _⟩ := hF
        have e0 : val 0 = .pointer (some ⟨B5, 8, none⟩) := h0 _ (Frm.refl _ W)
        try simp only [e0]
        try simp only [tupAt]
        have c8 := (HR.out W (D.trans gW)).blk.cell 8 rfl
        have a3 := Try.isAgg68
        have z3 := Try.sizeOf68
        exact OpOK.val (u := u') (by rfl) (by first | (go_simp; done) | (go_simp; with_reducible rfl) | (go_simp; rfl)) (fun W' _ => rfl)
      try simp only [Act.put, List.setIfInBounds_toArray, List.set_cons_zero, List.set_cons_succ]
      refine RelO.next (k' := 3) rfl (fun W gW hF => ?_) ?_
      focus
        exact OpOK.load (by rfl) _ rfl (by rfl) (load_dotB (HX.out W (D.trans gW))) (fun W' _ => rfl)
      try simp only [Act.put, List.setIfInBounds_toArray, List.set_cons_zero, List.set_cons_succ]
      refine RelO.next (k' := 4) rfl (fun W gW hF => ?_) ?_
      focus
        have c0 := (HF.out W (D.trans gW)).cell 0 rfl
        exact OpOK.val (u := .func (.func 35) #[] #[]) (by rfl) (by first | (go_simp; done) | (go_simp; with_reducible rfl) | (go_simp; rfl)) (fun W' _ => rfl)
      try simp only [Act.put, List.setIfInBounds_toArray, List.set_cons_zero, List.set_cons_succ]
      refine RelO.next (k' := 5) rfl (fun W gW hF => ?_) ?_
      focus
        refine OpOK.val (u := .string (bs x.s)) (by rfl) ?_ (fun W' _ => rfl)
        try simp only [tupAt]
        first | (go_simp; done) | (go_simp; with_reducible rfl) | (go_simp; rfl)
      try simp only [Act.put, List.setIfInBounds_toArray, List.set_cons_zero, List.set_cons_succ]
      refine RelO.next (k' := 6) rfl (fun W gW hF => ?_) ?_
      focus
        obtain ⟨h3, h4, _⟩ := hF
        have e3 : val 3 = .func (.func 35) #[] #[] := h3 _ (Frm.refl _ W)
        have e4 : val 4 = .string (bs x.s) := h4 _ (Frm.refl _ W)
        try simp only [e4]
        try simp only [e3]
        try simp only [tupAt]
        refine OpOK.call (by rfl) ?_ ((scall_any x.s W).mono ?_)
        · first | (go_simp; done) | (go_simp; with_reducible rfl) | (go_simp; rfl)
        · rintro e W1 ⟨rfl, rfl⟩
          exact ⟨_, rfl, Frm.refl _ _, fun W2 _ => rfl⟩
      try simp only [Act.put, List.setIfInBounds_toArray, List.set_cons_zero, List.set_cons_succ]
      refine RelO.next (k' := 7) rfl (fun W gW hF => ?_) ?_
      focus
        obtain ⟨h2, h5, _⟩ := hF
        have e2 : val 2 = .agg (dv x.r x.n) := h2 _ (Frm.refl _ W)
        have e5 : val 5 = .int .i64 (x.s.length : Int) := h5 _ (Frm.refl _ W)
        try simp only [e5]
        try simp only [e2]
        try simp only [tupAt]
        refine OpOK.val (u := .agg #[.int .u8 x.r, .int .u32 x.n, .int .i64 (x.s.length : Int)]) (by rfl) ?_ (fun W' _ => rfl)
        try simp only [e5]
        try simp only [e2]
        try simp only [tupAt]
        first | (go_simp; done) | (go_simp; with_reducible rfl) | (go_simp; rfl)
      try simp only [Act.put, List.setIfInBounds_toArray, List.set_cons_zero, List.set_cons_succ]
      refine RelO.next (k' := 8) rfl (fun W gW hF => ?_) ?_
      focus
        obtain ⟨h6, _⟩ := hF
        have e6 : val 6 = .agg #[.int .u8 x.r, .int .u32 x.n, .int .i64 (x.s.length : Int)] := h6 _ (Frm.refl _ W)
        try simp only [e6]
        try simp only [tupAt]
        refine OpOK.made (W' := W.alloc (.cells #[.int .u8 x.r, .int .u32 x.n, .int .i64 (x.s.length : Int)] 74)) (u := .slice (some ⟨W.heap.size, 0, none⟩) 1 1) (by rfl) ?_ ((Frm.refl _ W).alloc _) (fun W2 g2 => ⟨_, rfl, (IL.one W 74 x).keepF g2⟩)
        first | (go_simp; done) | (go_simp; with_reducible rfl) | (go_simp; rfl)
      try simp only [Act.put, List.setIfInBounds_toArray, List.set_cons_zero, List.set_cons_succ]
      exact RelO.nil
    intro val w5 gW hF
    obtain ⟨h0, h1, h2, h3, h4, h5, h6, h7, hT⟩ := hF
    have e0 : val 0 = .pointer (some ⟨B5, 8, none⟩) := h0 _ (Frm.refl _ w5)
    have e1 : val 1 = u' := h1 _ (Frm.refl _ w5)
    have e2 : val 2 = .agg (dv x.r x.n) := h2 _ (Frm.refl _ w5)
    have e3 : val 3 = .func (.func 35) #[] #[] := h3 _ (Frm.refl _ w5)
    have e4 : val 4 = .string (bs x.s) := h4 _ (Frm.refl _ w5)
    have e5 : val 5 = .int .i64 (x.s.length : Int) := h5 _ (Frm.refl _ w5)
    have e6 : val 6 = .agg #[.int .u8 x.r, .int .u32 x.n, .int .i64 (x.s.length : Int)] := h6 _ (Frm.refl _ w5)
    have q7 : ∃ z, (val 7) = z ∧ IL w5 z [x] := h7 _ (Frm.refl _ w5)
    obtain ⟨x22, e7, o22⟩ := q7
    clear hT h0 h1 h2 h3 h4 h5 h6 h7
    simp only [aO, Act.put, List.setIfInBounds_toArray, List.set_cons_zero, List.set_cons_succ, Nat.reduceAdd]
    try simp only [e7]
    try simp only [e6]
    try simp only [e5]
    try simp only [e4]
    try simp only [e3]
    try simp only [e2]
    try simp only [e1]
    try simp only [e0]
    try simp only [tupAt]
    obtain ⟨a2, c2, eu2, _, _⟩ := Row.slice (HR.out _ (D.trans gW)).own
    refine tail_fillI w1.heap.size B5 f pre [x] (by simp; omega) u' x22 hlt3 rfl rfl rfl rfl rfl rfl rfl rfl rfl rfl rfl rfl rfl rfl (HR.out _ (D.trans gW)) (Nat.le_trans HI.out.size (D.trans gW).size) o22 (fun v' W' => ?_) (fun v' => rfl) (fun v' => rfl) ?_
    · first | (go_simp; done) | (go_simp; with_reducible rfl) | (go_simp; rfl)
    intro v' w' F2 FX
    have hX2 : Frm (fun k => k = B5 ∨ u'.ownBlock = some k) wr w' := ((D.trans gW).mono fun _ _ h => h.elim).trans FX
    have hol := HC.out
    have hn := (HR.out _ (Frm.refl _ _)).out
    refine ⟨(hX2.others fun k o hk ho2 => ?_).from _, fun q hq => hX2.block q (by have := hKlt q hq; have := HI.out.size; omega) (fun e => ?_), ⟨_, F2⟩, ?_, ?_, ?_, ?_⟩
    · rcases hk with rfl | hk
      · exact hol.1 _ o rfl ho2
      · exact hol.2 k o hk ho2
    · have h3 := hK3 q hq
      have h4 := hKlt q hq
      have := HB5.out
      rcases e with rfl | e
      · omega
      · have := hn _ e; omega
    · exact HI.out.fn.keep hX2 (fun e => by have := HB5.out; have := HM.out; rcases e with e | e; · omega
                                            · have := hn _ e; omega)
    · exact HI.out.ret.keep hX2 (fun e => by have := HB5.out; have := HM.out; rcases e with e | e; · omega
                                             · have := hn _ e; omega)
    · exact HI.out.frm.next hX2 (fun k hk e => by have := HB5.out; rcases e with rfl | e; · omega
                                                  · have := hn _ e; omega)
    · exact Nat.le_trans HI.out.size hX2.size
  case done =>
    rintro D xs W hD rfl hi hK
    obtain ⟨u', hb', ho, hn⟩ := hi.res
    obtain ⟨a, cap, rfl, hc1, hc2⟩ := Row.slice ho
    have lR := load_ireg hb'
    have hDlt := (Array.getElem?_eq_some_iff.1 hK).1
    have hret := hi.ret
    go_wp2_with (first
      | ((with_reducible refine wpl_load rfl _ rfl ?_ lR ?_); (focus rfl))
      | ((with_reducible refine wpl_store_blk rfl 70 _ _ rfl (w.heap.size + 1 + 1) (rgc f (.slice a xs.length cap)) rz ?_ ?_ hret rfl ?_ ?_ ?_); (focus rfl); (focus rfl); (focus (show _ = some 9; kernel_rfl)); (focus (simp [Value.oneCell'])); intro w5 e5 g5 z5))
    refine calmR_ret ?_
    have hne : D ≠ w.heap.size + 1 + 1 := fun e => by
      rw [e] at hK
      have := hret
      unfold Blk at this
      rw [hK] at this
      cases this
    have hK' := (g5.block D hDlt hne).trans hK
    have hgp := grownBy_putObj' w5 D (.deferred none)
    have hrow : ∀ q, some D = some q → ∃ o : Obj, w5.heap[q]? = some o ∧ o.isCells = false := fun q e => by cases e; exact ⟨_, hK', rfl⟩
    have hb6 := e5.turned hgp hrow
    have h2 := rcellsT hb6
    have c9 := hb6.cell 8 rfl
    have ho2 : OwnI (w5.putObj D (.deferred none)) (.slice a xs.length cap) xs := Row.turned (ho.keep g5 (fun g e h => by have h : g = w.heap.size + 1 + 1 := h; have := hn g e; omega)) hgp hrow
    refine ⟨by simp, .inl ⟨_, _, rfl, run_takeDeferred hK', ?_⟩⟩
    refine ⟨rg f (.slice a xs.length cap), by simp [results, Try.results34, go_sem, h2, c9], ?_⟩
    exact ⟨_, rfl, ho2, (hi.frm.next g5 (fun k hk e => by have e : k = w.heap.size + 1 + 1 := e; omega)).grown hgp (fun k hk e => by cases e; omega), fun g e => by have := hn g e; omega⟩
  case stop =>
    rintro D c pre W _ _ h _
    exact h.elim
end Go.Proofs.Ytmdmkcofafhlcaa

