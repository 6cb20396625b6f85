/- The document's registers as they lie: what is appended to their siblings, loaded, stored; slices of dots of the call's own. No condition. -/
import Derived.Test.YtojbgckabifnjaaSibY
import Derived.Deep.MidRow
section
namespace Go.Proofs.Ytojbgckabifnjaa
open Go.RowKit

theorem Try.info105 : (Try.prog.info? 105).map (fun i => (i.zero, i.size, i.bytes)) = some (some (.agg #[.int .u8 0, .int .u32 0, .string ⟨#[]⟩]), 3, 24) := by kernel_rfl
theorem Try.info48 : (Try.prog.info? 48).map (fun i => (i.zero, i.size, i.bytes)) = some (some (.agg #[.int .u8 0, .int .u32 0]), 2, 8) := by kernel_rfl
/-- The document's siblings are appended. -/
theorem append_rsibs (w : World) (v x : Value) (l m : List SibI) (h : OwnL w v l) (hs : SL w x m) (hb : l.length + m.length ≤ 1000000) :
    ∃ v' w', (Builtin.append_ #[45, 45] 45 #[v, x]).run Try.prog w = .ok v' w' ∧ OwnL w' v' (l ++ m) ∧ w.grownBy w' v.ownBlock ∧ (∀ g, v'.ownBlock = some g → v.ownBlock = some g ∨ w.heap.size ≤ g) := by
  obtain ⟨i0, hi, hz0, hz1, hz2⟩ := info_parts Try.info105
  obtain ⟨v', w', h1, h2, h3, h4⟩ := run_append_row w 45 45 45 105 i0 (.agg #[.int .u8 0, .int .u32 0, .string ⟨#[]⟩]) 3 24 Try.underlying45 hi hz0 hz1 hz2 rfl h x m.length (flat sibc m)
    (Sl.src hs Try.underlying45 (flat_one sibc sibc_one m)) (by unfold maxLen; omega) (by omega)
  exact ⟨v', w', h1, by unfold OwnL; rw [List.length_append, flat_append]; exact h2, h3, h4⟩
/-- A slice of dots of the call's own. -/
def OwnD (w : World) (v : Value) (l : List DotI) : Prop := Row w 2 v l.length (flat dotc l)
theorem OwnD.sl {w : World} {v : Value} {l : List DotI} (h : OwnD w v l) : DL w v l := Sl.ofRow h
theorem OwnD.keep {X : Nat → Prop} {w w' : World} {v : Value} {l : List DotI} (h : OwnD w v l) (hf : Frm X w w') (hn : ∀ g, v.ownBlock = some g → ¬ X g) : OwnD w' v l := Row.keep h hf hn
theorem OwnD.nil_ (w : World) : OwnD w (.slice none 0 0) [] := Row.nil_ w 2
theorem append_rdots (w : World) (v x : Value) (l m : List DotI) (h : OwnD w v l) (hs : DL w x m) (hb : l.length + m.length ≤ 1000000) :
    ∃ v' w', (Builtin.append_ #[52, 52] 52 #[v, x]).run Try.prog w = .ok v' w' ∧ OwnD w' v' (l ++ m) ∧ w.grownBy w' v.ownBlock ∧ (∀ g, v'.ownBlock = some g → v.ownBlock = some g ∨ w.heap.size ≤ g) := by
  obtain ⟨i0, hi, hz0, hz1, hz2⟩ := info_parts Try.info48
  obtain ⟨v', w', h1, h2, h3, h4⟩ := run_append_row w 52 52 52 48 i0 (.agg #[.int .u8 0, .int .u32 0]) 2 8 Try.underlying52 hi hz0 hz1 hz2 rfl h x m.length (flat dotc m)
    (Sl.src hs Try.underlying52 (flat_one dotc dotc_one m)) (by unfold maxLen; omega) (by omega)
  exact ⟨v', w', h1, by unfold OwnD; rw [List.length_append, flat_append]; exact h2, h3, h4⟩
/-- A register, its context, a dot, out of a block that holds them. -/
theorem load_rreg {w : World} {b : Nat} {f : Nat → Nat} {v : Value} (h : Blk w b 47 (rgc f v)) : (Instr.loadAt 47 (.pointer (some ⟨b, 0, none⟩))).run Try.prog w = .ok (rg f v) w :=
  run_loadAt_mid w b 0 47 (rgc f v).toList _ (fun j u hu => by rw [Nat.zero_add]; exact h.cell j (by rw [← Array.getElem?_toList]; exact hu)) Try.underlying47 rfl (by show _ = some 9; kernel_rfl)
theorem load_rctx {w : World} {b : Nat} {f : Nat → Nat} {v : Value} (h : Blk w b 47 (rgc f v)) : (Instr.loadAt 23 (.pointer (some ⟨b, 0, none⟩))).run Try.prog w = .ok (.agg (vv f)) w :=
  run_loadAt_mid w b 0 23 (vv f).toList _ (fun j u hu => by
    have hj : j < 8 := by
      rcases Nat.lt_or_ge j 8 with h | h
      · exact h
      · rw [List.getElem?_eq_none (by simp; omega)] at hu; cases hu
    rw [Array.getElem?_toList] at hu
    rw [Nat.zero_add]
    refine h.cell j (?_ : (rgc f v)[j]? = some u)
    rcases lt8 hj with rfl | rfl | rfl | rfl | rfl | rfl | rfl | rfl <;> exact hu) Try.underlying23 rfl (by show _ = some 8; kernel_rfl)
theorem load_rdotB {w : World} {b r n : Nat} (h : Blk w b 48 (dv r n)) : (Instr.loadAt 48 (.pointer (some ⟨b, 0, none⟩))).run Try.prog w = .ok (.agg (dv r n)) w :=
  run_loadAt_mid w b 0 48 (dv r n).toList _ (fun j u hu => by rw [Nat.zero_add]; exact h.cell j (by rw [← Array.getElem?_toList]; exact hu)) Try.underlying48 rfl (by show _ = some 2; kernel_rfl)
theorem Sl.one (w : World) (T : TypeId) (x : SibI) : SL (w.alloc (.cells #[.int .u8 x.r, .int .u32 x.n, .string (bs x.s)] T)) (.slice (some ⟨w.heap.size, 0, none⟩) 1 1) [x] :=
  Sl.built sibc sibc_len w T x #[.int .u8 x.r, .int .u32 x.n, .string (bs x.s)] rfl
theorem rcellsT {T : TypeId} {w : World} {b : Nat} {f : Nat → Nat} {v : Value} (h : Blk w b T (rgc f v)) : ∀ k, k < 8 → w.cell? ⟨b, k, none⟩ = some (.int .u32 (f k)) := fun k hk => by
  rcases lt8 hk with rfl | rfl | rfl | rfl | rfl | rfl | rfl | rfl <;> exact h.cell _ rfl
/-- A register, whose siblings are of the call's own, in a block of its own. -/
structure FillT (T : TypeId) (w0 : World) (B : Nat) (f : Nat → Nat) (l : List SibI) (v : Value) (W : World) : Prop where
  blk : Blk W B T (rgc f v)
  own : OwnL W v l
  out : ∀ g, v.ownBlock = some g → w0.heap.size ≤ g ∧ g ≠ B
  frm : Frm (fun _ => False) w0 W
  lo : w0.heap.size ≤ B
theorem FillT.keep {T : TypeId} {w0 W W' : World} {B : Nat} {f : Nat → Nat} {l : List SibI} {v : Value} (h : FillT T w0 B f l v W) (g : Frm (fun _ => False) W W') : FillT T w0 B f l v W' := ⟨h.blk.keep g (fun h => h), h.own.keep g (fun _ _ h => h), h.out, h.frm.trans g, h.lo⟩
section
variable {ops : Array Oper} {Q : Exit → Act → World → Prop} {r m : Nat} {a : Act} {w W : World}
theorem wpTail.appendR {o : Oper} {d : Tmp} {x y : Operand} {l ms : List SibI} {v u : Value} (hi : ops[r]? = some o) (hg : o.guard = none) (hd : o.dst = some d)
    (ho : o.op = .call ⟨.builtin .append, #[x, y], #[45, 45]⟩) (ht : o.type = 45) (hx : a.eval x = v) (hy : a.eval y = u) (h : OwnL W v l) (hs : SL W u ms) (hb : l.length + ms.length ≤ 1000000)
    (hK : ∀ v' W', OwnL W' v' (l ++ ms) → W.grownBy W' v.ownBlock → (∀ g, v'.ownBlock = some g → v.ownBlock = some g ∨ W.heap.size ≤ g) → wpTail Try.prog ops Q (r + 1) m (a.put (some d) v') W') : wpTail Try.prog ops Q r (m + 1) a W := by
  obtain ⟨v', W', hrun, h1, h2, h3⟩ := append_rsibs W v u l ms h hs hb
  refine wpTail.cons hi hg fun K hK' => ?_
  refine Lib.wp_append_run W x y _ _ ho v u hx hy v' W' (by rw [ht]; exact hrun) ?_
  rw [hd]
  exact hK' _ _ (hK v' W' h1 h2 h3)
theorem wpTail.store_RL {o : Oper} (hi : ops[r]? = some o) (hgd : o.guard = none) (hd : o.dst = none) (x y : Operand) (ho : o.op = .store 45 x y)
    (b : Nat) (f : Nat → Nat) (v : Value) (av : Option Addr) (n c : Nat) (hx : a.eval x = .pointer (some ⟨b, 8, none⟩)) (hy : a.eval y = .slice av n c) (h : Blk W b 47 (rgc f v))
    (hK : ∀ w', Blk w' b 47 (rgc f (.slice av n c)) → Frm (· = b) W w' → w'.heap.size = W.heap.size → wpTail Try.prog ops Q (r + 1) m a w') : wpTail Try.prog ops Q r (m + 1) a W := by
  have c0 := h.cell 8 rfl
  have f0 := h.free 8
  have a3 := Try.isAgg45
  have z3 := Try.sizeOf45
  refine wpTail.cons hi hgd fun K hK' => ?_
  unfold Oper.wp execOp
  simp only [ho, hx, hy]
  go_simp
  refine hK' _ _ (hK _ ?_ ?_ ?_)
  · exact h.set 8 _
  · exact (Frm.refl (· = b) W).setCell (p := ⟨b, 8, none⟩) (fun _ => rfl) _
  · simp [World.setCell]
theorem tail_fillR {w0 : World} {o1 o2 o3 : Oper} {x1 y1 x2 y2 : Operand} {d1 d2 : Tmp} (B : Nat) (f : Nat → Nat) (l ms : List SibI) (hb : l.length + ms.length ≤ 1000000) (v u : Value)
    (i1 : ops[r]? = some o1) (i2 : ops[r + 1]? = some o2) (i3 : ops[r + 1 + 1]? = some o3) (g1 : o1.guard = none) (g2 : o2.guard = none) (g3 : o3.guard = none) (n1 : o1.dst = some d1) (n2 : o2.dst = some d2) (n3 : o3.dst = none)
    (p1 : o1.op = .call ⟨.builtin .append, #[x1, y1], #[45, 45]⟩) (t1 : o1.type = 45) (p3 : o3.op = .store 45 x2 y2)
    (hx1 : a.eval x1 = v) (hy1 : a.eval y1 = u) (h : FillT 47 w0 B f l v W) (hs : SL W u ms)
    (h2 : ∀ v' W', (execOp (a.put (some d1) v').eval o2).run Try.prog W' = .ok (.value (.pointer (some ⟨B, 8, none⟩))) W')
    (hx2 : ∀ v', ((a.put (some d1) v').put (some d2) (.pointer (some ⟨B, 8, none⟩))).eval x2 = .pointer (some ⟨B, 8, none⟩)) (hy2 : ∀ v', ((a.put (some d1) v').put (some d2) (.pointer (some ⟨B, 8, none⟩))).eval y2 = v')
    (hK : ∀ v' W', FillT 47 w0 B f (l ++ ms) v' W' → Q .normal ((a.put (some d1) v').put (some d2) (.pointer (some ⟨B, 8, none⟩))) W') : wpTail Try.prog ops Q r 3 a W := by
  refine wpTail.appendR i1 g1 n1 p1 t1 hx1 hy1 h.own hs hb fun v' W1 o1 gr nb => ?_
  have hX : Frm (fun k => v.ownBlock = some k) W W1 := (Frm.refl _ W).grown gr (fun k _ e => e)
  have b1 := h.blk.keep hX (fun e => (h.out _ e).2 rfl)
  obtain ⟨a6, c6, rfl, _, _⟩ := Row.slice o1
  have hlt : B < W.heap.size := (Array.getElem?_eq_some_iff.1 h.blk).1
  have nn : ∀ g, (Value.slice a6 (l ++ ms).length c6).ownBlock = some g → w0.heap.size ≤ g ∧ g ≠ B := fun g e => (nb g e).elim (fun e => h.out g e) (fun e => ⟨Nat.le_trans h.frm.size e, by omega⟩)
  refine wpTail.val i2 g2 n2 (h2 _ W1) ?_
  refine wpTail.store_RL i3 g3 n3 _ _ p3 B f v a6 (l ++ ms).length c6 (hx2 _) (hy2 _) b1 fun w7 b7 g7 z7 => ?_
  refine hK _ w7 ⟨b7, o1.keep g7 (fun g e => (nn g e).2), nn, (h.frm.next hX fun k hk e => ?_).next g7 fun k hk e => ?_, h.lo⟩
  · have := (h.out k e).1; omega
  · have e : k = B := e
    have := h.lo
    omega
end
end Go.Proofs.Ytojbgckabifnjaa
end
section
namespace Go.Proofs.Ytojbgckabifnjaa
open Go.RowKit

/-- A call's answer: a register with these siblings, in memory of its own. -/
def NewR (f : Nat → Nat) (l : List SibI) (w : World) (e : Ending) (w' : World) : Prop := ∃ v', e = .returned (rg f v') ∧ OwnL w' v' l ∧ Frm (fun _ => False) w w' ∧ ∀ g, v'.ownBlock = some g → w.heap.size ≤ g
/-- Cells that may be written over. -/
def SpW (w : World) (v : Value) (n : Nat) : Prop := n = 0 ∨ ∃ g cap, v = .slice (some ⟨g, 0, none⟩) n cap ∧ n ≤ cap ∧ ∀ j, j < n * 3 → (w.cell? ⟨g, j, none⟩).isSome = true ∧ w.frozen? ⟨g, j, none⟩ = false
theorem SpW.set {w : World} {v : Value} {n : Nat} (h : SpW w v n) (b o : Nat) (vs : List Value) (hin : ∀ j, j < vs.length → (w.cell? ⟨b, o + j, none⟩).isSome = true) : SpW (w.setCells b o vs) v n := by
  rcases h with h | ⟨g, cap, e, h1, h2⟩
  · exact .inl h
  · refine .inr ⟨g, cap, e, h1, fun j hj => ⟨?_, by rw [World.frozen?_setCells]; exact (h2 j hj).2⟩⟩
    by_cases hi : g = b ∧ o ≤ j ∧ j < o + vs.length
    · obtain ⟨rfl, h3, h4⟩ := hi
      have := World.cell?_setCells_in g vs o w hin (j - o) (by omega)
      rw [show o + (j - o) = j from by omega] at this
      rw [this]; rfl
    · rw [World.cell?_setCells_out b vs o w ⟨g, j, none⟩ (fun hb _ => by
        have hb : g = b := hb
        show j < o ∨ o + vs.length ≤ j
        omega)]
      exact (h2 j hj).1
theorem Frm.setCells {X : Nat → Prop} {w : World} (b : Nat) (hX : b < w.heap.size → X b) : ∀ (vs : List Value) (o : Nat) (w' : World), Frm X w w' → Frm X w (w'.setCells b o vs) := by
  intro vs
  induction vs with
  | nil => intro o w' h; exact h
  | cons x xs ih => intro o w' h; exact ih (o + 1) _ (h.setCell (p := ⟨b, o, none⟩) hX x)

end Go.Proofs.Ytojbgckabifnjaa
end
