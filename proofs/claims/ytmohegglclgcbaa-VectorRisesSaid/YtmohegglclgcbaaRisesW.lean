/- VectorRises: the law's memory: five vectors, marks, dots that were made; the moves. No condition. -/
import Derived.Test.YtmohegglclgcbaaRisesM
import Derived.Test.YtmohegglclgcbaaRec
import Derived.Test.YtmohegglclgcbaaCanonR
import Derived.Test.YtmohegglclgcbaaCanonQ
namespace Go.Proofs.Ytmohegglclgcbaa
open Go.RowKit

/-- Five vectors, one behind the other. -/
def AllC (w : World) (A : Nat) (V : Nat → Nat → Nat) : Prop := ∀ x, x < 5 → ∀ k, k < 8 → w.cell? ⟨A, x * 8 + k, none⟩ = some (.int .u32 (V x k)) ∧ w.frozen? ⟨A, x * 8 + k, none⟩ = false
/-- Five rows of sixty marks. -/
def HasC (w : World) (B : Nat) (H : Nat → Nat → Bool) : Prop := ∀ x, x < 5 → ∀ k, k < 60 → w.cell? ⟨B, x * 60 + k, none⟩ = some (.bool (H x k)) ∧ w.frozen? ⟨B, x * 60 + k, none⟩ = false
/-- The cells of a dot that was made. -/
def mkc (m : Mk) : List Value := [.int .u8 m.r, .int .u32 m.n] ++ (vv m.k).toList
theorem mkc_len (m : Mk) : (mkc m).length = 10 := rfl
theorem mkc_one (m : Mk) : ∀ u ∈ mkc m, u.oneCell' = true := fun u hu => by
  simp [mkc] at hu
  rcases hu with rfl | rfl | rfl | rfl | rfl | rfl | rfl | rfl | rfl | rfl <;> rfl

section
variable {w w' : World} {A B : Nat} {V : Nat → Nat → Nat} {H : Nat → Nat → Bool} {X : Nat → Prop}
theorem frozen_of {a : Addr} (h : w'.heap[a.block]? = w.heap[a.block]?) : w'.frozen? a = w.frozen? a := World.frozen?_of_block h
theorem AllC.lt (h : AllC w A V) : A < w.heap.size := World.block_lt_of_cell? w _ (h 0 (by omega) 0 (by omega)).1
theorem HasC.lt (h : HasC w B H) : B < w.heap.size := World.block_lt_of_cell? w _ (h 0 (by omega) 0 (by omega)).1
theorem AllC.keep (h : AllC w A V) (hf : Frm X w w') (hn : ¬ X A) : AllC w' A V := fun x hx k hk => by
  have e := hf.block A h.lt hn
  rw [World.cell?_of_block (a := ⟨A, x * 8 + k, none⟩) e, World.frozen?_of_block (a := ⟨A, x * 8 + k, none⟩) e]
  exact h x hx k hk
theorem HasC.keep (h : HasC w B H) (hf : Frm X w w') (hn : ¬ X B) : HasC w' B H := fun x hx k hk => by
  have e := hf.block B h.lt hn
  rw [World.cell?_of_block (a := ⟨B, x * 60 + k, none⟩) e, World.frozen?_of_block (a := ⟨B, x * 60 + k, none⟩) e]
  exact h x hx k hk
theorem AllC.drew (h : AllC w A V) : AllC w.drew A V := h
theorem HasC.drew (h : HasC w B H) : HasC w.drew B H := h
theorem AllC.load (h : AllC w A V) (x : Nat) (hx : x < 5) : (Instr.loadAt 24 (.pointer (some ⟨A, x * 8, none⟩))).run Try.prog w = .ok (.agg (vv (V x))) w :=
  run_loadAt_mid w A (x * 8) 24 (vv (V x)).toList _ (fun j v hv => by
    have hj : j < 8 := by
      rcases Nat.lt_or_ge j 8 with h | h
      · exact h
      · rw [List.getElem?_eq_none (by simp; omega)] at hv; cases hv
    rw [Array.getElem?_toList, vv_get _ j hj] at hv
    cases hv
    exact (h x hx j hj).1) Try.underlying24 rfl (by show _ = some 8; kernel_rfl)
theorem AllC.start (h : Blk w A 38 (Array.replicate 40 (.int .u32 0))) : AllC w A (fun _ _ => 0) := fun x hx k hk => ⟨h.cell _ (by rw [Array.getElem?_replicate, if_pos (by omega)]; rfl), h.free _⟩
theorem zeros300 : Try.zeroCells40 = Array.replicate 300 (.bool false) := by kernel_rfl
theorem HasC.start (h : Blk w B 40 Try.zeroCells40) : HasC w B (fun _ _ => false) := fun x hx k hk => ⟨h.cell _ (by rw [zeros300, Array.getElem?_replicate, if_pos (by omega)]), h.free _⟩

/-- A vector is stored among the five. -/
theorem AllC.store (h : AllC w A V) (x : Nat) (hx : x < 5) (f : Nat → Nat) : w.there A (x * 8) 8 ∧ AllC (w.setCells A (x * 8) (vv f).toList) A (updV V x f) ∧ Frm (· = A) w (w.setCells A (x * 8) (vv f).toList) := by
  have ht : w.there A (x * 8) 8 := fun j hj => by
    obtain ⟨h1, h2⟩ := h x hx j hj
    exact ⟨by rw [h1]; rfl, h2⟩
  have hlen : (vv f).toList.length = 8 := rfl
  have hin := World.rangeAt_setCells_same w A (x * 8) (vv f).toList (by rw [hlen]; exact ht)
  refine ⟨ht, fun y hy k hk => ?_, ?_⟩
  · obtain ⟨h1, h2⟩ := h y hy k hk
    refine ⟨?_, by rw [World.frozen?_setCells]; exact h2⟩
    unfold updV
    by_cases e : y = x
    · subst e
      rw [if_pos rfl]
      exact hin k _ (by rw [Array.getElem?_toList, vv_get f k hk])
    · rw [if_neg e]
      have := World.rangeAt_setCells_apart (w := w) (b' := A) (o' := y * 8 + k) (cs := [.int .u32 (V y k)]) (fun j v hv => by
        cases j with
        | zero => cases hv; exact h1
        | succ j => simp at hv) A (x * 8) (vv f).toList (.inr (by rw [hlen]; simp only [List.length_singleton]; omega))
      exact this 0 _ rfl
  · obtain ⟨a, b, c, d⟩ := setCells_rest A (vv f).toList (x * 8) w
    exact ⟨a, b, c, by omega, fun k _ hk => setCells_blk A (vv f).toList (x * 8) w k hk⟩
/-- A mark is stored. -/
theorem HasC.store (h : HasC w B H) (x k : Nat) (hx : x < 5) (hk : k < 60) (q : Bool) : HasC (w.setCell ⟨B, x * 60 + k, none⟩ (.bool q)) B (updH H x fun j => if j = k then q else H x j) := fun y hy j hj => by
  obtain ⟨h1, h2⟩ := h y hy j hj
  have hsome : (w.cell? ⟨B, x * 60 + k, none⟩).isSome = true := by rw [(h x hx k hk).1]; rfl
  unfold updH
  refine ⟨?_, by simp; exact h2⟩
  by_cases e : y = x
  · subst e
    rw [if_pos rfl]
    by_cases e2 : j = k
    · subst e2
      rw [if_pos rfl, World.cell?_setCell_same' _ _ _ hsome]
    · rw [if_neg e2, World.cell?_setCell_other _ _ _ _ (by intro e3; simp at e3 <;> omega)]
      exact h1
  · rw [if_neg e, World.cell?_setCell_other _ _ _ _ (by intro e3; simp at e3 <;> omega)]
    exact h1
end

theorem HasC.congr {w : World} {B : Nat} {H H' : Nat → Nat → Bool} (h : HasC w B H) (he : ∀ x, x < 5 → ∀ k, k < 60 → H x k = H' x k) : HasC w B H' := fun x hx k hk => by
  rw [← he x hx k hk]; exact h x hx k hk

/-- The store of a vector among the five, as an operation of a region. -/
theorem AllC.wpOp_store {ops : Array Oper} {Q : Exit → Act → World → Prop} {K : Act → World → Prop} {i : Nat} {o : Oper} {a : Act} {w : World} {A : Nat} {V : Nat → Nat → Nat} (hi : ops[i]? = some o) (hg : o.guard = none) (hd : o.dst = none) (x y : Operand) (ho : o.op = .store 24 x y)
    (k : Nat) (f : Nat → Nat) (h : AllC w A V) (hk : k < 5) (hx : a.eval x = .pointer (some ⟨A, k * 8, none⟩)) (hy : a.eval y = .agg (vv f))
    (hK : ∀ w', AllC w' A (updV V k f) → Frm (· = A) w w' → K a w') : wpOp Try.prog ops Q i K a w := by
  obtain ⟨h1, h2, h3⟩ := h.store k hk f
  unfold wpOp
  simp only [hi]
  rw [if_pos (by unfold Region.wanted; rw [hg])]
  exact .inl (wp_store_mid 24 x y ho A (k * 8) (vv f) hx hy h1 (by show _ = some 8; kernel_rfl) (by simp [Value.oneCell']) (by rw [hd]; exact hK _ h2 h3))
theorem AllC.wpl_store {ops : Array Oper} {rest : List Oper} {Q : Exit → Act → World → Prop} {o : Oper} {a : Act} {w : World} {A : Nat} {V : Nat → Nat → Nat} (hg : o.guard = none) (x y : Operand) (ho : o.op = .store 24 x y)
    (k : Nat) (f : Nat → Nat) (h : AllC w A V) (hk : k < 5) (hx : a.eval x = .pointer (some ⟨A, k * 8, none⟩)) (hy : a.eval y = .agg (vv f))
    (hK : ∀ w', AllC w' A (updV V k f) → Frm (· = A) w w' → wpList Try.prog ops Q rest (a.put o.dst undef) w') : wpList Try.prog ops Q (o :: rest) a w := by
  obtain ⟨h1, h2, h3⟩ := h.store k hk f
  exact wpList_store_mid hg 24 x y ho A (k * 8) (vv f) hx hy h1 (by show _ = some 8; kernel_rfl) (by simp [Value.oneCell']) (hK _ h2 h3)
theorem wp_store_mark {o : Oper} {a : Act} {w : World} {K : Act → World → Prop} {Q : Exit → Act → World → Prop} (x y : Operand) (ho : o.op = .store 4 x y)
    (B n : Nat) (q q0 : Bool) (hx : a.eval x = .pointer (some ⟨B, n, none⟩)) (hy : a.eval y = .bool q) (c0 : w.cell? ⟨B, n, none⟩ = some (.bool q0)) (f0 : w.frozen? ⟨B, n, none⟩ = false)
    (hK : K (a.put o.dst undef) (w.setCell ⟨B, n, none⟩ (.bool q))) : o.wp Try.prog a w K Q := by
  have a3 := Try.isAgg4
  have z3 := Try.sizeOf4
  unfold Oper.wp execOp
  simp only [ho, hx, hy]
  go_simp
  exact hK
theorem HasC.wpOp_store {ops : Array Oper} {Q : Exit → Act → World → Prop} {K : Act → World → Prop} {i : Nat} {o : Oper} {a : Act} {w : World} {B : Nat} {H : Nat → Nat → Bool} (hi : ops[i]? = some o) (hg : o.guard = none) (hd : o.dst = none) (x y : Operand) (ho : o.op = .store 4 x y)
    (k j : Nat) (q : Bool) (h : HasC w B H) (hk : k < 5) (hj : j < 60) (hx : a.eval x = .pointer (some ⟨B, k * 60 + j, none⟩)) (hy : a.eval y = .bool q)
    (hK : ∀ w', HasC w' B (updH H k fun t => if t = j then q else H k t) → Frm (· = B) w w' → K a w') : wpOp Try.prog ops Q i K a w := by
  obtain ⟨h1, h2⟩ := h k hk j hj
  unfold wpOp
  simp only [hi]
  rw [if_pos (by unfold Region.wanted; rw [hg])]
  exact .inl (wp_store_mark x y ho B _ q _ hx hy h1 h2 (by rw [hd]; exact hK _ (h.store k j hk hj q) ((Frm.refl (· = B) w).setCell (p := ⟨B, k * 60 + j, none⟩) (fun _ => rfl) _)))
theorem HasC.wpl_store {ops : Array Oper} {rest : List Oper} {Q : Exit → Act → World → Prop} {o : Oper} {a : Act} {w : World} {B : Nat} {H : Nat → Nat → Bool} (hg : o.guard = none) (x y : Operand) (ho : o.op = .store 4 x y)
    (k j : Nat) (q : Bool) (h : HasC w B H) (hk : k < 5) (hj : j < 60) (hx : a.eval x = .pointer (some ⟨B, k * 60 + j, none⟩)) (hy : a.eval y = .bool q)
    (hK : ∀ w', HasC w' B (updH H k fun t => if t = j then q else H k t) → Frm (· = B) w w' → wpList Try.prog ops Q rest (a.put o.dst undef) w') : wpList Try.prog ops Q (o :: rest) a w := by
  obtain ⟨h1, h2⟩ := h k hk j hj
  exact wpList_plain hg fun _ hKK => wp_store_mark x y ho B _ q _ hx hy h1 h2 (hKK _ _ (hK _ (h.store k j hk hj q) ((Frm.refl (· = B) w).setCell (p := ⟨B, k * 60 + j, none⟩) (fun _ => rfl) _)))

theorem load_dot {w : World} {b r n : Nat} (h : Blk w b 27 (dv r n)) : (Instr.loadAt 27 (.pointer (some ⟨b, 0, none⟩))).run Try.prog w = .ok (.agg (dv r n)) w :=
  run_loadAt_mid w b 0 27 (dv r n).toList _ (fun j u hu => by rw [Nat.zero_add]; exact h.cell j (by rw [← Array.getElem?_toList]; exact hu)) Try.underlying27 rfl (by show _ = some 2; kernel_rfl)

/-- An operation that is not guarded. -/
theorem wpOp_plain {ops : Array Oper} {Q : Exit → Act → World → Prop} {K : Act → World → Prop} {i : Nat} {o : Oper} {a : Act} {w : World} (hi : ops[i]? = some o) (hg : o.guard = none) (h : o.wp Try.prog a w K Q) : wpOp Try.prog ops Q i K a w := by
  unfold wpOp
  simp only [hi]
  rw [if_pos (by unfold Region.wanted; rw [hg])]
  exact .inl h

/-- A slice of one dot that was made. -/
theorem wp_slice_made {o : Oper} {a : Act} {w : World} {K : Act → World → Prop} {Q : Exit → Act → World → Prop} (t : Nat) (ho : o.op = .buildSlice 41 1 #[(0, .tmp t)]) (m : Mk)
    (hv : a.tmps[t]? = some (.agg #[.int .u8 m.r, .int .u32 m.n, .int .u32 (m.k 0), .int .u32 (m.k 1), .int .u32 (m.k 2), .int .u32 (m.k 3), .int .u32 (m.k 4), .int .u32 (m.k 5), .int .u32 (m.k 6), .int .u32 (m.k 7)]))
    (hK : K (a.put o.dst (.slice (some ⟨w.heap.size, 0, none⟩) 1 1)) (w.alloc (.cells (mkc m).toArray 45))) : o.wp Try.prog a w K Q := by
  unfold Oper.wp execOp
  simp only [ho]
  go_simp
  exact hK

/-- A move. -/
structure MoveI where
  who : Nat
  frm : Nat
  joins : Bool
/-- The slice value v reads as these moves. -/
def Mv (w : World) (v : Value) (L : List MoveI) : Prop :=
  ∃ a cap, v = .slice a L.length cap ∧ L.length ≤ cap ∧ cap ≤ maxLen ∧ ∀ i (h : i < L.length), ∃ b off, a = some ⟨b, off, none⟩ ∧ b < w.heap.size ∧
    w.cell? ⟨b, off + i * 3, none⟩ = some (.int .u8 L[i].who) ∧ w.cell? ⟨b, off + i * 3 + 1, none⟩ = some (.int .u8 L[i].frm) ∧ w.cell? ⟨b, off + i * 3 + 2, none⟩ = some (.bool L[i].joins) ∧
    L[i].who < 256 ∧ L[i].frm < 256
theorem Mv.keep {X : Nat → Prop} {w w' : World} {v : Value} {L : List MoveI} (h : Mv w v L) (hf : Frm X w w') (hn : ∀ k, k < w.heap.size → ¬ X k) : Mv w' v L := by
  obtain ⟨a, cap, hv, h1, h2, h3⟩ := h
  refine ⟨a, cap, hv, h1, h2, fun i hi => ?_⟩
  obtain ⟨b, off, ha, hb, c0, c1, c2, r⟩ := h3 i hi
  have e := hf.block b hb (hn b hb)
  have ec : ∀ j, w'.cell? ⟨b, j, none⟩ = w.cell? ⟨b, j, none⟩ := fun j => World.cell?_of_block (a := ⟨b, j, none⟩) e
  exact ⟨b, off, ha, Nat.lt_of_lt_of_le hb hf.size, by rw [ec]; exact c0, by rw [ec]; exact c1, by rw [ec]; exact c2, r⟩

/-- Dots that were made, in memory of the call's own. -/
def OwnM (w : World) (v : Value) (D : List Mk) : Prop := Row w 10 v D.length (flat mkc D)
theorem OwnM.keep {X : Nat → Prop} {w w' : World} {v : Value} {D : List Mk} (h : OwnM w v D) (hf : Frm X w w') (hn : ∀ g, v.ownBlock = some g → ¬ X g) : OwnM w' v D := Row.keep h hf hn
theorem Try.info45 : (Try.prog.info? 45).map (fun i => (i.zero, i.size, i.bytes)) = some (some (.agg #[.int .u8 0, .int .u32 0, .int .u32 0, .int .u32 0, .int .u32 0, .int .u32 0, .int .u32 0, .int .u32 0, .int .u32 0, .int .u32 0]), 10, 40) := by kernel_rfl
theorem append_mks (w : World) (v x : Value) (l m : List Mk) (h : OwnM w v l) (hs : Sl w 10 x m.length (flat mkc m)) (hb : l.length + m.length ≤ 1000) :
    ∃ v' w', (Builtin.append_ #[41, 41] 41 #[v, x]).run Try.prog w = .ok v' w' ∧ OwnM w' v' (l ++ m) ∧ w.grownBy w' v.ownBlock ∧ (∀ g, v'.ownBlock = some g → v.ownBlock = some g ∨ w.heap.size ≤ g) := by
  obtain ⟨i0, hi, hz0, hz1, hz2⟩ := info_parts Try.info45
  obtain ⟨v', w', h1, h2, h3, h4⟩ := run_append_row w 41 41 41 45 i0 (.agg #[.int .u8 0, .int .u32 0, .int .u32 0, .int .u32 0, .int .u32 0, .int .u32 0, .int .u32 0, .int .u32 0, .int .u32 0, .int .u32 0]) 10 40 Try.underlying41 hi hz0 hz1 hz2 rfl h x m.length (flat mkc m)
    (Sl.src hs Try.underlying41 (flat_one mkc mkc_one m)) (by unfold maxLen; omega) (by omega)
  exact ⟨v', w', h1, by unfold OwnM; rw [List.length_append, flat_append]; exact h2, h3, h4⟩
/-- What is read of a dot that was made. -/
theorem OwnM.reads {w : World} {v : Value} {D : List Mk} (h : OwnM w v D) (k : Nat) (hk : k < D.length) : ∃ g cap, v = .slice (some ⟨g, 0, none⟩) D.length cap ∧ D.length ≤ cap ∧ cap ≤ maxLen ∧
    w.cell? ⟨g, k * 10, none⟩ = some (.int .u8 D[k].r) ∧ w.cell? ⟨g, k * 10 + 1, none⟩ = some (.int .u32 D[k].n) ∧
    (Instr.loadAt 24 (.pointer (some ⟨g, k * 10 + 2, none⟩))).run Try.prog w = .ok (.agg (vv D[k].k)) w ∧ (Instr.loadAt 27 (.pointer (some ⟨g, k * 10, none⟩))).run Try.prog w = .ok (.agg (dv D[k].r D[k].n)) w := by
  obtain ⟨g, cap, rfl, h1, h2, hc⟩ := Row.elem mkc mkc_len h k hk
  refine ⟨g, cap, rfl, h1, h2, hc 0 (by omega), hc 1 (by omega), run_loadAt_mid w g (k * 10 + 2) 24 (vv D[k].k).toList _ (fun j u hu => ?_) Try.underlying24 rfl (by show _ = some 8; kernel_rfl),
    run_loadAt_mid w g (k * 10) 27 (dv D[k].r D[k].n).toList _ (fun j u hu => ?_) Try.underlying27 rfl (by show _ = some 2; kernel_rfl)⟩
  · have hj : j < 8 := by
      rcases Nat.lt_or_ge j 8 with h | h
      · exact h
      · rw [List.getElem?_eq_none (by simp; omega)] at hu; cases hu
    rw [show k * 10 + 2 + j = k * 10 + (2 + j) from by omega, hc (2 + j) (by omega), ← hu, Nat.add_comm 2 j]
    rfl
  · have hj : j < 2 := by
      rcases Nat.lt_or_ge j 2 with h | h
      · exact h
      · rw [List.getElem?_eq_none (by simp; omega)] at hu; cases hu
    rw [hc j (by omega), ← hu]
    have : j = 0 ∨ j = 1 := by omega
    rcases this with rfl | rfl <;> rfl
end Go.Proofs.Ytmohegglclgcbaa
