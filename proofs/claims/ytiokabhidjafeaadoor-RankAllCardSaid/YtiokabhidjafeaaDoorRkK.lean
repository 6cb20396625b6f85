/- A register's directories, and all else. No condition but that what is handed in leaves all as it lay, and that texts and registers aren't too long. -/
import Derived.Test.YtiokabhidjafeaaDoorRkI
namespace Go.Proofs.YtiokabhidjafeaaDoor
open Go.RowKit Go.Shelf
attribute [local go_sem] Oper.semAt_some

theorem mid_step {ops : Array Oper} {Q : Exit → Act → World → Prop} {K : Act → World → Prop} {i : Nat} {o : Oper} {a : Act} {w : World} (hi : ops[i]? = some o) (hg : o.guard = none) (hd : o.dst = none) (ty : TypeId) (x y : Operand) (ho : o.op = .store ty x y)
    (b : Nat) (cells : Array Value) (hx : a.eval x = .pointer (some ⟨b, 0, none⟩)) (hy : a.eval y = .agg cells) (ht : w.there b 0 cells.size) (hf : (Tryd.prog.info? ty).map (·.size) = some cells.size) (h1 : cells.all (·.oneCell') = true) (h : K a (w.setCells b 0 cells.toList)) : wpOp Tryd.prog ops Q i K a w := by
  unfold wpOp
  simp only [hi]
  rw [if_pos (by unfold Region.wanted; rw [hg])]
  refine .inl ?_
  refine wp_store_mid ty x y ho b 0 cells hx hy ht hf h1 ?_
  rw [hd]
  exact h
def setL (cs : Array Value) : Nat → List Value → Array Value
  | _, [] => cs
  | o, v :: r => setL (cs.setIfInBounds o v) (o + 1) r
theorem Blk.setL {b : Nat} {t : TypeId} : ∀ (vs : List Value) (o : Nat) (w : World) (cs : Array Value), Blk w b t cs → Blk (w.setCells b o vs) b t (setL cs o vs)
  | [], _, _, _, h => h
  | v :: r, o, _, _, h => Blk.setL r (o + 1) _ _ (h.set o v)
theorem Frm.setL {X : Nat → Prop} {w : World} (b : Nat) (hX : b < w.heap.size → X b) : ∀ (vs : List Value) (o : Nat) (w' : World), Frm X w w' → Frm X w (w'.setCells b o vs) := by
  intro vs
  induction vs with
  | nil => intro o w' h; exact h
  | cons x xs ih => intro o w' h; exact ih (o + 1) _ (h.setCell (p := ⟨b, o, none⟩) hX x)
theorem setL_ctx (f z : Nat → Nat) (v : Value) : setL (rgc z v) 0 (vv f).toList = rgc f v := by simp [Go.Proofs.YtiokabhidjafeaaDoor.setL]
theorem Blk.ctx {w : World} {b : Nat} {f z : Nat → Nat} {v : Value} (h : Blk w b 27 (rgc z v)) : Blk (w.setCells b 0 (vv f).toList) b 27 (rgc f v) := by
  have := Blk.setL (vv f).toList 0 w _ h
  rw [setL_ctx] at this
  exact this
theorem Frm.ctx {w : World} {b : Nat} {f : Nat → Nat} : Frm (fun q => q = b) w (w.setCells b 0 (vv f).toList) := Frm.setL (X := fun q => q = b) b (fun _ => rfl) _ _ _ (Frm.refl _ w)
theorem Blk.there8 {w : World} {b : Nat} {z : Nat → Nat} {v : Value} (h : Blk w b 27 (rgc z v)) : w.there b 0 8 := fun j hj => by
  rw [Nat.zero_add]
  refine ⟨?_, h.free j⟩
  rcases lt8 hj with rfl | rfl | rfl | rfl | rfl | rfl | rfl | rfl <;> (rw [h.cell _ rfl]; rfl)
theorem Tw.trans {B : Nat} {W W' W'' : World} (h : Tw B W W') (h' : Tw B W' W'') : Tw B W W'' := Frm.next h h' fun k hk e => by
  by_cases hx : B ≤ k ∧ ∃ o : Obj, W.heap[k]? = some o ∧ o.isCells = false
  · exact hx
  · obtain ⟨hB, o, ho, hc⟩ := e
    rw [h.block k hk hx] at ho
    exact ⟨hB, o, ho, hc⟩
/-- What lies between two rounds: the siblings that came, by what p tells of them, in memory of the call's own. -/
structure PaI (w1 : World) (B : Bool → Nat) (f : Nat → Nat) (p : List UInt8 → Bool) (pre : List SibI) (W : World) : Prop where
  res : ∃ U : Bool → Value, (∀ b, Blk W (B b) 27 (rgc f (U b))) ∧ (∀ b, OwnL W (U b) (pre.filter (fun x => p x.s == b))) ∧ (∀ b g, (U b).ownBlock = some g → w1.heap.size ≤ g) ∧ ∀ b g, (U b).ownBlock = some g → (U (!b)).ownBlock ≠ some g
  frm : Frm (fun q => ∃ b, q = B b) w1 W
theorem PaI.tw {w1 W W' : World} {B : Bool → Nat} {f : Nat → Nat} {p : List UInt8 → Bool} {pre : List SibI} (h : PaI w1 B f p pre W) (g : Tw w1.heap.size W W') : PaI w1 B f p pre W' := by
  obtain ⟨U, h1, h2, h3, h4⟩ := h.res
  exact ⟨⟨U, fun b => g.blk (h1 b), fun b => g.row (h2 b), h3, h4⟩, g.frm h.frm (Nat.le_refl _)⟩
/-- A sibling's cells are kept. -/
def Cs3 (D V : Nat) (x : SibI) (w' : World) : Prop := w'.cell? ⟨D, 0, none⟩ = some (.int .u8 x.r) ∧ w'.cell? ⟨D, 1, none⟩ = some (.int .u32 x.n) ∧ w'.cell? ⟨V, 0, none⟩ = some (.string (bs x.s))
theorem pa_app {w1 W0 W1 W3 W5 : World} {B : Bool → Nat} {K : Nat → Prop} {f : Nat → Nat} {p : List UInt8 → Bool} {pre : List SibI} {x : SibI} {D V : Nat} (hi : PaI w1 B f p pre W0) (hB : ∀ b, B b < w1.heap.size) (hne : ∀ b, B (!b) ≠ B b) (f01 : Frm (fun _ => False) W0 W1) (hD : W1.heap.size ≤ D) (hV : W1.heap.size ≤ V)
    (h13 : Tw w1.heap.size W1 W3) (h35 : Frm (fun _ => False) W3 W5) (bd : Blk W5 D 61 #[.int .u8 x.r, .int .u32 x.n]) (bv : Blk W5 V 9 #[.string (bs x.s)]) (hK : ∀ q, K q → q < w1.heap.size ∧ ∀ b, q ≠ B b) (hl : pre.length ≤ 100000) {c : Bool} (hc : p x.s = c) :
    ∃ a n k, Blk W5 (B c) 27 (rgc f (.slice a n k)) ∧ ∀ WD, Frm (fun _ => False) W5 WD → ∃ a9 n9 c9 W6, (Builtin.append_ #[25, 25] 25 #[.slice a n k, .slice (some ⟨WD.heap.size, 0, none⟩) 1 1]).run Tryd.prog (WD.alloc (.cells #[.int .u8 x.r, .int .u32 x.n, .string (bs x.s)] 63)) = .ok (.slice a9 n9 c9) W6 ∧
      Cs3 D V x W6 ∧ (W6.cell? ⟨B c, 8, none⟩ = some (.slice a n k) ∧ W6.frozen? ⟨B c, 8, none⟩ = false) ∧ Cs3 D V x (W6.setCell ⟨B c, 8, none⟩ (.slice a9 n9 c9)) ∧
      KeepsFrom w1.heap.size W3 (W6.setCell ⟨B c, 8, none⟩ (.slice a9 n9 c9)) ∧ keptS K W1 (W6.setCell ⟨B c, 8, none⟩ (.slice a9 n9 c9)) ∧ PaI w1 B f p (pre ++ [x]) (W6.setCell ⟨B c, 8, none⟩ (.slice a9 n9 c9)) := by
  obtain ⟨U, hb0, ho0, hlo, hap⟩ := hi.res
  have t05 : Tw w1.heap.size W0 W5 := ((Tw.old f01).trans h13).trans (Tw.old h35)
  obtain ⟨a, k, hu, _, _⟩ := Row.slice (ho0 c)
  have hub : ∀ b g, (U b).ownBlock = some g → w1.heap.size ≤ g ∧ g < W1.heap.size := fun b g e => ⟨hlo b g e, Nat.lt_of_lt_of_le (Row.fresh (ho0 b) e) f01.size⟩
  have hs1 : w1.heap.size ≤ W1.heap.size := Nat.le_trans hi.frm.size f01.size
  have hs5 : W1.heap.size ≤ W5.heap.size := Nat.le_trans h13.size h35.size
  refine ⟨a, _, k, by rw [← hu]; exact t05.blk (hb0 c), fun WD gD => ?_⟩
  have t0D : Tw w1.heap.size W0 WD := t05.trans (Tw.old gD)
  have gA : Frm (fun _ => False) WD (WD.alloc (.cells #[.int .u8 x.r, .int .u32 x.n, .string (bs x.s)] 63)) := (Frm.refl _ WD).alloc _
  have t0A : Tw w1.heap.size W0 (WD.alloc (.cells #[.int .u8 x.r, .int .u32 x.n, .string (bs x.s)] 63)) := t0D.trans (Tw.old gA)
  have hA : ∀ b, OwnL (WD.alloc (.cells #[.int .u8 x.r, .int .u32 x.n, .string (bs x.s)] 63)) (U b) (pre.filter (fun x => p x.s == b)) := fun b => t0A.row (ho0 b)
  have hlen : (pre.filter (fun x => p x.s == c)).length ≤ pre.length := List.length_filter_le _ _
  obtain ⟨v', W6, hrun, hown, hgr, hnew⟩ := append_sibs (WD.alloc (.cells #[.int .u8 x.r, .int .u32 x.n, .string (bs x.s)] 63)) (U c) (.slice (some ⟨WD.heap.size, 0, none⟩) 1 1) (pre.filter (fun x => p x.s == c)) [x] (hA c)
    (Sl.built sibc sibc_len WD 63 x #[.int .u8 x.r, .int .u32 x.n, .string (bs x.s)] rfl) (by simp; omega)
  obtain ⟨a9, c9, e9, _, _⟩ := Row.slice hown
  subst e9
  rw [hu] at hrun
  have g6 : Frm (fun q => (U c).ownBlock = some q) WD W6 := (gA.mono fun _ _ h => h.elim).grown hgr (fun q _ e => e)
  have gAr : Frm (fun q => (U c).ownBlock = some q) (WD.alloc (.cells #[.int .u8 x.r, .int .u32 x.n, .string (bs x.s)] 63)) W6 := (Frm.refl _ _).grown hgr (fun q _ e => e)
  have b6 : ∀ b, Blk W6 (B b) 27 (rgc f (U b)) := fun b => (t0D.blk (hb0 b)).keep g6 (fun e => by have := (hub c _ e).1; have := hB b; omega)
  have d6 : Blk W6 D 61 #[.int .u8 x.r, .int .u32 x.n] := (bd.keep gD (fun h => h)).keep g6 (fun e => by have := (hub c _ e).2; omega)
  have v6 : Blk W6 V 9 #[.string (bs x.s)] := (bv.keep gD (fun h => h)).keep g6 (fun e => by have := (hub c _ e).2; omega)
  obtain ⟨v', hv'⟩ : ∃ v', Value.slice a9 (pre.filter (fun x => p x.s == c) ++ [x]).length c9 = v' := ⟨_, rfl⟩
  refine ⟨a9, _, c9, W6, hrun, ⟨d6.cell 0 rfl, d6.cell 1 rfl, v6.cell 0 rfl⟩, ⟨by rw [← hu]; exact (b6 c).cell 8 rfl, (b6 c).free 8⟩, ?_⟩
  rw [hv'] at hown hnew ⊢
  have fs : Frm (fun q => q = B c) W6 (W6.setCell ⟨B c, 8, none⟩ v') := (Frm.refl (fun q => q = B c) W6).setCell (p := ⟨B c, 8, none⟩) (fun _ => rfl) _
  have d7 := d6.keep fs (fun e => by have := hB c; omega)
  have v7 := v6.keep fs (fun e => by have := hB c; omega)
  have f5 : Frm (fun q => q = B c ∨ (U c).ownBlock = some q) W5 (W6.setCell ⟨B c, 8, none⟩ v') := ((gD.mono fun _ _ h => h.elim).trans (g6.mono fun _ _ h => .inr h)).trans (fs.mono fun _ _ h => .inl h)
  have f3 : Frm (fun q => q = B c ∨ (U c).ownBlock = some q) W3 (W6.setCell ⟨B c, 8, none⟩ v') := (h35.mono fun _ _ h => h.elim).trans f5
  have t03 : Tw w1.heap.size W0 W3 := (Tw.old f01).trans h13
  obtain ⟨U', hU1, hU2⟩ : ∃ U' : Bool → Value, U' c = v' ∧ ∀ b, ¬ b = c → U' b = U b := ⟨fun b => if b = c then v' else U b, by simp, fun b h => by simp [h]⟩
  have hnl : ∀ g, v'.ownBlock = some g → w1.heap.size ≤ g := fun g e => by
    rcases hnew g e with e2 | e2
    · exact (hub c g e2).1
    · have := gA.size; have := gD.size; omega
  refine ⟨⟨d7.cell 0 rfl, d7.cell 1 rfl, v7.cell 0 rfl⟩, (f3.others fun q o hq ho2 => ?_).from _, fun q hq => ?_, ⟨⟨U', fun b => ?_, fun b => ?_, fun b g e => ?_, fun b g e => ?_⟩, ?_⟩⟩
  · rcases hq with rfl | hq
    · exact (t03.blk (hb0 c)).isCells _ o rfl ho2
    · exact Row.isCellsR (t03.row (ho0 c)) q o hq ho2
  · have h1 := (hK q hq).1
    have e3 := h13.block q (by omega) (fun e => by have := e.1; omega)
    have e5 := f3.block q (by have := h13.size; omega) (fun e => by
      rcases e with e | e
      · exact (hK q hq).2 c e
      · have := (hub c q e).1; omega)
    exact e5.trans e3
  · by_cases hbc : b = c
    · subst hbc
      rw [hU1]
      exact (b6 b).set 8 v'
    · rw [hU2 _ hbc]
      have e : b = !c := by cases b <;> cases c <;> simp_all
      exact (b6 b).keep fs (fun h => hne c (by rw [← e]; exact h))
  · by_cases hbc : b = c
    · subst hbc
      rw [hU1, List.filter_append, show [x].filter (fun x => p x.s == b) = [x] by simp [hc]]
      exact hown.keep fs (fun g e h => by have := hnl g e; have := hB b; omega)
    · rw [hU2 _ hbc, List.filter_append, show [x].filter (fun x => p x.s == b) = [] by simp [hc]; exact fun h => hbc h.symm, List.append_nil]
      have e : b = !c := by cases b <;> cases c <;> simp_all
      exact ((hA b).keep gAr (fun g e2 h => hap c g h (by rw [← e]; exact e2))).keep fs (fun g e2 h => by have := (hub b g e2).1; have := hB c; omega)
  · by_cases hbc : b = c
    · rw [hbc, hU1] at e; exact hnl g e
    · rw [hU2 _ hbc] at e; exact hlo b g e
  · by_cases hbc : b = c
    · rw [hbc, hU1] at e
      have hn2 : ¬ (!b) = c := by cases b <;> cases c <;> simp_all
      rw [hU2 _ hn2]
      intro e2
      rcases hnew g e with e3 | e3
      · exact hap c g e3 (by rw [← hbc]; exact e2)
      · have := (hub (!b) g e2).2
        have := gA.size; have := gD.size; omega
    · rw [hU2 _ hbc] at e
      have hn2 : (!b) = c := by cases b <;> cases c <;> simp_all
      rw [hn2, hU1]
      intro e2
      rcases hnew g e2 with e3 | e3
      · exact hap b g e (by rw [hn2]; exact e3)
      · have := (hub b g e).2
        have := gA.size; have := gD.size; omega
  · have t1 : Frm (fun q => ∃ b, q = B b) w1 W3 := t03.frm hi.frm (Nat.le_refl _)
    exact t1.next f3 (fun q hq e => by
      rcases e with e | e
      · exact ⟨c, e⟩
      · have := (hub c q e).1; omega)
end Go.Proofs.YtiokabhidjafeaaDoor

