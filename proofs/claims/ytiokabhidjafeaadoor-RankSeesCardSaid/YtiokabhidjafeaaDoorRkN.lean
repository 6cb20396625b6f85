/- The statements' own functions on registers at stage 8: which may be gone through; a register as the document's. No condition. -/
import Derived.Test.YtiokabhidjafeaaDoorRkL
import Derived.Deep.MidRow
import Derived.Test.YtiokabhidjafeaaDoorLate
namespace Go.Proofs.YtiokabhidjafeaaDoor
open Go.RowKit

/-- No register's cells. -/
abbrev rz : Array Value := #[.int .u32 0, .int .u32 0, .int .u32 0, .int .u32 0, .int .u32 0, .int .u32 0, .int .u32 0, .int .u32 0, .slice none 0 0]
theorem rg_one (f : Nat → Nat) (a : Option Addr) (n c : Nat) : (rgc f (.slice a n c)).all (·.oneCell') = true := by simp [Value.oneCell']
theorem SL.cells {w : World} {a : Option Addr} {cap : Nat} {l : List SibI} (h : SL w (.slice a l.length cap) l) (k : Nat) (hk : k < l.length) :
    ∃ g off, a = some ⟨g, off, none⟩ ∧ w.cell? ⟨g, off + k * 3, none⟩ = some (.int .u8 l[k].r) ∧ w.cell? ⟨g, off + k * 3 + 1, none⟩ = some (.int .u32 l[k].n) ∧ w.cell? ⟨g, off + k * 3 + 2, none⟩ = some (.string (bs l[k].s)) := by
  obtain ⟨g, off, rfl, _, hc⟩ := Sl.elem sibc sibc_len h k hk (by omega)
  exact ⟨g, off, rfl, hc 0 (by omega), by rw [Nat.add_assoc]; exact hc 1 (by omega), by rw [Nat.add_assoc]; exact hc 2 (by omega)⟩

theorem ret_bool {a b : Bool} (h : a = b) : Ending.returned (.bool a) = .returned (.bool b) := by rw [h]
def NewR (f : Nat → Nat) (l : List SibI) (w : World) (e : Ending) (w' : World) : Prop := ∃ v', e = .returned (rg f v') ∧ OwnL w' v' l ∧ Frm (fun _ => False) w w' ∧ ∀ g, v'.ownBlock = some g → w.heap.size ≤ g
section
variable {ops : Array Oper} {Q : Exit → Act → World → Prop} {r m : Nat} {a : Act} {w W : World}
theorem wpTail.val {o : Oper} {d : Tmp} {v : Value} (hi : ops[r]? = some o) (hg : o.guard = none) (hd : o.dst = some d) (h : (execOp a.eval o).run Tryd.prog W = .ok (.value v) W) (hK : wpTail Tryd.prog ops Q (r + 1) m (a.put (some d) v) W) : wpTail Tryd.prog ops Q r (m + 1) a W := by
  refine wpTail.cons hi hg fun K hK' => ?_
  unfold Oper.wp
  rw [h]
  refine hK' _ _ ?_
  rw [hd]
  exact hK
end

theorem Tryd.info80 : (Tryd.prog.info? 80).map (fun i => (i.zero, i.size, i.bytes)) = some (some (.agg #[.int .u8 0, .int .u32 0, .string ⟨#[]⟩]), 3, 24) := by kernel_rfl
theorem Tryd.info78 : (Tryd.prog.info? 78).map (fun i => (i.zero, i.size, i.bytes)) = some (some (.agg #[.int .u8 0, .int .u32 0]), 2, 8) := by kernel_rfl
/-- The document's siblings are appended. -/
theorem append_rsibs (w : World) (v x : Value) (l m : List SibI) (h : OwnL w v l) (hs : SL w x m) (hb : l.length + m.length ≤ 1000000) :
    ∃ v' w', (Builtin.append_ #[35, 35] 35 #[v, x]).run Tryd.prog w = .ok v' w' ∧ OwnL w' v' (l ++ m) ∧ w.grownBy w' v.ownBlock ∧ (∀ g, v'.ownBlock = some g → v.ownBlock = some g ∨ w.heap.size ≤ g) := by
  obtain ⟨i0, hi, hz0, hz1, hz2⟩ := info_parts Tryd.info80
  obtain ⟨v', w', h1, h2, h3, h4⟩ := run_append_row w 35 35 35 80 i0 (.agg #[.int .u8 0, .int .u32 0, .string ⟨#[]⟩]) 3 24 Tryd.underlying35 hi hz0 hz1 hz2 rfl h x m.length (flat sibc m)
    (Sl.src hs Tryd.underlying35 (flat_one sibc sibc_one m)) (by unfold maxLen; omega) (by omega)
  exact ⟨v', w', h1, by unfold OwnL; rw [List.length_append, flat_append]; exact h2, h3, h4⟩
/-- A slice of dots of the call's own. -/
def OwnD (w : World) (v : Value) (l : List DotI) : Prop := Row w 2 v l.length (flat dotc l)
theorem OwnD.sl {w : World} {v : Value} {l : List DotI} (h : OwnD w v l) : DL w v l := Sl.ofRow h
theorem OwnD.keep {X : Nat → Prop} {w w' : World} {v : Value} {l : List DotI} (h : OwnD w v l) (hf : Frm X w w') (hn : ∀ g, v.ownBlock = some g → ¬ X g) : OwnD w' v l := Row.keep h hf hn
theorem OwnD.nil_ (w : World) : OwnD w (.slice none 0 0) [] := Row.nil_ w 2
theorem append_rdots (w : World) (v x : Value) (l m : List DotI) (h : OwnD w v l) (hs : DL w x m) (hb : l.length + m.length ≤ 1000000) :
    ∃ v' w', (Builtin.append_ #[42, 42] 42 #[v, x]).run Tryd.prog w = .ok v' w' ∧ OwnD w' v' (l ++ m) ∧ w.grownBy w' v.ownBlock ∧ (∀ g, v'.ownBlock = some g → v.ownBlock = some g ∨ w.heap.size ≤ g) := by
  obtain ⟨i0, hi, hz0, hz1, hz2⟩ := info_parts Tryd.info78
  obtain ⟨v', w', h1, h2, h3, h4⟩ := run_append_row w 42 42 42 78 i0 (.agg #[.int .u8 0, .int .u32 0]) 2 8 Tryd.underlying42 hi hz0 hz1 hz2 rfl h x m.length (flat dotc m)
    (Sl.src hs Tryd.underlying42 (flat_one dotc dotc_one m)) (by unfold maxLen; omega) (by omega)
  exact ⟨v', w', h1, by unfold OwnD; rw [List.length_append, flat_append]; exact h2, h3, h4⟩
/-- A register, its context, a dot, out of a block that holds them. -/
theorem load_rreg {w : World} {b : Nat} {f : Nat → Nat} {v : Value} (h : Blk w b 37 (rgc f v)) : (Instr.loadAt 37 (.pointer (some ⟨b, 0, none⟩))).run Tryd.prog w = .ok (rg f v) w :=
  run_loadAt_mid w b 0 37 (rgc f v).toList _ (fun j u hu => by rw [Nat.zero_add]; exact h.cell j (by rw [← Array.getElem?_toList]; exact hu)) Tryd.underlying37 rfl (by show _ = some 9; kernel_rfl)
theorem Sl.one (w : World) (T : TypeId) (x : SibI) : SL (w.alloc (.cells #[.int .u8 x.r, .int .u32 x.n, .string (bs x.s)] T)) (.slice (some ⟨w.heap.size, 0, none⟩) 1 1) [x] :=
  Sl.built sibc sibc_len w T x #[.int .u8 x.r, .int .u32 x.n, .string (bs x.s)] rfl
theorem rcellsT {T : TypeId} {w : World} {b : Nat} {f : Nat → Nat} {v : Value} (h : Blk w b T (rgc f v)) : ∀ k, k < 8 → w.cell? ⟨b, k, none⟩ = some (.int .u32 (f k)) := fun k hk => by
  rcases lt8 hk with rfl | rfl | rfl | rfl | rfl | rfl | rfl | rfl <;> exact h.cell _ rfl
/-- A register, whose siblings are of the call's own, in a block of its own. -/
structure FillT (T : TypeId) (w0 : World) (B : Nat) (f : Nat → Nat) (l : List SibI) (v : Value) (W : World) : Prop where
  blk : Blk W B T (rgc f v)
  own : OwnL W v l
  out : ∀ g, v.ownBlock = some g → w0.heap.size ≤ g ∧ g ≠ B
  frm : Frm (fun _ => False) w0 W
  lo : w0.heap.size ≤ B
theorem FillT.keep {T : TypeId} {w0 W W' : World} {B : Nat} {f : Nat → Nat} {l : List SibI} {v : Value} (h : FillT T w0 B f l v W) (g : Frm (fun _ => False) W W') : FillT T w0 B f l v W' := ⟨h.blk.keep g (fun h => h), h.own.keep g (fun _ _ h => h), h.out, h.frm.trans g, h.lo⟩
section
variable {ops : Array Oper} {Q : Exit → Act → World → Prop} {r m : Nat} {a : Act} {w W : World}
theorem wpTail.appendR {o : Oper} {d : Tmp} {x y : Operand} {l ms : List SibI} {v u : Value} (hi : ops[r]? = some o) (hg : o.guard = none) (hd : o.dst = some d)
    (ho : o.op = .call ⟨.builtin .append, #[x, y], #[35, 35]⟩) (ht : o.type = 35) (hx : a.eval x = v) (hy : a.eval y = u) (h : OwnL W v l) (hs : SL W u ms) (hb : l.length + ms.length ≤ 1000000)
    (hK : ∀ v' W', OwnL W' v' (l ++ ms) → W.grownBy W' v.ownBlock → (∀ g, v'.ownBlock = some g → v.ownBlock = some g ∨ W.heap.size ≤ g) → wpTail Tryd.prog ops Q (r + 1) m (a.put (some d) v') W') : wpTail Tryd.prog ops Q r (m + 1) a W := by
  obtain ⟨v', W', hrun, h1, h2, h3⟩ := append_rsibs W v u l ms h hs hb
  refine wpTail.cons hi hg fun K hK' => ?_
  refine Lib.wp_append_run W x y _ _ ho v u hx hy v' W' (by rw [ht]; exact hrun) ?_
  rw [hd]
  exact hK' _ _ (hK v' W' h1 h2 h3)
theorem wpTail.store_RL {o : Oper} (hi : ops[r]? = some o) (hgd : o.guard = none) (hd : o.dst = none) (x y : Operand) (ho : o.op = .store 35 x y)
    (b : Nat) (f : Nat → Nat) (v : Value) (av : Option Addr) (n c : Nat) (hx : a.eval x = .pointer (some ⟨b, 8, none⟩)) (hy : a.eval y = .slice av n c) (h : Blk W b 37 (rgc f v))
    (hK : ∀ w', Blk w' b 37 (rgc f (.slice av n c)) → Frm (· = b) W w' → w'.heap.size = W.heap.size → wpTail Tryd.prog ops Q (r + 1) m a w') : wpTail Tryd.prog ops Q r (m + 1) a W := by
  have c0 := h.cell 8 rfl
  have f0 := h.free 8
  have a3 := Tryd.isAgg35
  have z3 := Tryd.sizeOf35
  refine wpTail.cons hi hgd fun K hK' => ?_
  unfold Oper.wp execOp
  simp only [ho, hx, hy]
  go_simp
  refine hK' _ _ (hK _ ?_ ?_ ?_)
  · exact h.set 8 _
  · exact (Frm.refl (· = b) W).setCell (p := ⟨b, 8, none⟩) (fun _ => rfl) _
  · simp [World.setCell]
theorem tail_fillR {w0 : World} {o1 o2 o3 : Oper} {x1 y1 x2 y2 : Operand} {d1 d2 : Tmp} (B : Nat) (f : Nat → Nat) (l ms : List SibI) (hb : l.length + ms.length ≤ 1000000) (v u : Value)
    (i1 : ops[r]? = some o1) (i2 : ops[r + 1]? = some o2) (i3 : ops[r + 1 + 1]? = some o3) (g1 : o1.guard = none) (g2 : o2.guard = none) (g3 : o3.guard = none) (n1 : o1.dst = some d1) (n2 : o2.dst = some d2) (n3 : o3.dst = none)
    (p1 : o1.op = .call ⟨.builtin .append, #[x1, y1], #[35, 35]⟩) (t1 : o1.type = 35) (p3 : o3.op = .store 35 x2 y2)
    (hx1 : a.eval x1 = v) (hy1 : a.eval y1 = u) (h : FillT 37 w0 B f l v W) (hs : SL W u ms)
    (h2 : ∀ v' W', (execOp (a.put (some d1) v').eval o2).run Tryd.prog W' = .ok (.value (.pointer (some ⟨B, 8, none⟩))) W')
    (hx2 : ∀ v', ((a.put (some d1) v').put (some d2) (.pointer (some ⟨B, 8, none⟩))).eval x2 = .pointer (some ⟨B, 8, none⟩)) (hy2 : ∀ v', ((a.put (some d1) v').put (some d2) (.pointer (some ⟨B, 8, none⟩))).eval y2 = v')
    (hK : ∀ v' W', FillT 37 w0 B f (l ++ ms) v' W' → Q .normal ((a.put (some d1) v').put (some d2) (.pointer (some ⟨B, 8, none⟩))) W') : wpTail Tryd.prog ops Q r 3 a W := by
  refine wpTail.appendR i1 g1 n1 p1 t1 hx1 hy1 h.own hs hb fun v' W1 o1 gr nb => ?_
  have hX : Frm (fun k => v.ownBlock = some k) W W1 := (Frm.refl _ W).grown gr (fun k _ e => e)
  have b1 := h.blk.keep hX (fun e => (h.out _ e).2 rfl)
  obtain ⟨a6, c6, rfl, _, _⟩ := Row.slice o1
  have hlt : B < W.heap.size := (Array.getElem?_eq_some_iff.1 h.blk).1
  have nn : ∀ g, (Value.slice a6 (l ++ ms).length c6).ownBlock = some g → w0.heap.size ≤ g ∧ g ≠ B := fun g e => (nb g e).elim (fun e => h.out g e) (fun e => ⟨Nat.le_trans h.frm.size e, by omega⟩)
  refine wpTail.val i2 g2 n2 (h2 _ W1) ?_
  refine wpTail.store_RL i3 g3 n3 _ _ p3 B f v a6 (l ++ ms).length c6 (hx2 _) (hy2 _) b1 fun w7 b7 g7 z7 => ?_
  refine hK _ w7 ⟨b7, o1.keep g7 (fun g e => (nn g e).2), nn, (h.frm.next hX fun k hk e => ?_).next g7 fun k hk e => ?_, h.lo⟩
  · have := (h.out k e).1; omega
  · have e : k = B := e
    have := h.lo
    omega
end
/-- May a register be gone through? -/
def few8 (l : List SibI) : Prop := l.length ≤ 30 ∧ ∀ i (h : i < l.length), l[i].s.length ≤ 100
set_option maxRecDepth 100000 in
set_option maxHeartbeats 1000000 in
theorem few8_yes (f : Nat → Nat) (v : Value) (l : List SibI) (w : World) (h : SL w v l) (hfew : few8 l) :
    Calls Tryd.prog 8 #[rg f v] w fun e w' => e = .returned (.bool true) ∧ Frm (fun _ => False) w w' := by
  obtain ⟨a, cap, rfl, h1, h2⟩ := h.slice
  obtain ⟨f1, f2⟩ := hfew
  have F2 := Lib.hid f2
  clear f2
  unfold maxLen at h2
  have g0 : Frm (fun _ => False) w (w.alloc (.cells (rgc f (.slice a l.length cap)) 27)) := (Frm.refl _ w).alloc _
  have b0 := Blk.alloc w 27 (rgc f (.slice a l.length cap))
  have hs := h.keepF g0
  go_enter Tryd.func8, Tryd.ntmps8
  go_upto_region 1 with fail
  generalize w.alloc (.cells (rgc f (.slice a l.length cap)) 27) = w1 at *
  generalize w.heap.size = N at *
  have c8 := b0.cell 8 rfl
  go_wp2
  go_loop [3] (fun i => ∃ k : Nat, k ≤ l.length ∧ i = .int .i64 k) (fun i => l.length - (intOf i).toNat)
  case atStart => exact ⟨0, Nat.zero_le _, rfl⟩
  case round =>
    obtain ⟨k, hk, rfl⟩ := hrel
    by_cases hlt : k < l.length
    · obtain ⟨g, off, rfl, x0, x1, x2⟩ := hs.cells k hlt
      have hq := F2.out k hlt
      have hsz : ((bs l[k].s).size : Int) ≤ 100 := by rw [bs_size]; omega
      have h110 : (k : Int) < 40 := by omega
      go_wp2
      go_round
      case rel => exact ⟨k + 1, by omega, by go_num⟩
      case measure => simp [intOf]; omega
    · obtain rfl : k = l.length := by omega
      go_wp2
      go_ret
      exact ⟨ret_bool (by simp; omega), g0⟩

set_option maxRecDepth 100000 in
set_option maxHeartbeats 1000000 in
theorem few8_no (f : Nat → Nat) (v : Value) (l : List SibI) (w : World) (h : SL w v l) (hfew : ¬ few8 l) :
    Calls Tryd.prog 8 #[rg f v] w fun e w' => e = .returned (.bool false) ∧ Frm (fun _ => False) w w' := by
  obtain ⟨a, cap, rfl, h1, h2⟩ := h.slice
  have HF := Lib.hid hfew
  clear hfew
  unfold maxLen at h2
  have g0 : Frm (fun _ => False) w (w.alloc (.cells (rgc f (.slice a l.length cap)) 27)) := (Frm.refl _ w).alloc _
  have b0 := Blk.alloc w 27 (rgc f (.slice a l.length cap))
  have hs := h.keepF g0
  go_enter Tryd.func8, Tryd.ntmps8
  go_upto_region 1 with fail
  generalize w.alloc (.cells (rgc f (.slice a l.length cap)) 27) = w1 at *
  generalize w.heap.size = N at *
  have c8 := b0.cell 8 rfl
  go_wp2
  go_loop [3] (fun i => ∃ k : Nat, k ≤ l.length ∧ k ≤ 40 ∧ i = .int .i64 k ∧ ∀ j (h : j < l.length), j < k → l[j].s.length ≤ 100) (fun i => l.length - (intOf i).toNat)
  case atStart => exact ⟨0, Nat.zero_le _, by omega, rfl, fun j _ h => absurd h (by omega)⟩
  case round =>
    obtain ⟨k, hk, hk110, rfl, hall⟩ := hrel
    have Hall := Lib.hid hall
    clear hall
    by_cases hlt : k < l.length
    · obtain ⟨g, off, rfl, x0, x1, x2⟩ := hs.cells k hlt
      by_cases h110 : k < 40
      · have h110i : (k : Int) < 40 := by omega
        by_cases hq : l[k].s.length ≤ 100
        · have hsz : ((bs l[k].s).size : Int) ≤ 100 := by rw [bs_size]; omega
          go_wp2
          go_round
          case rel =>
            refine ⟨k + 1, by omega, by omega, by go_num, fun j hj hjk => ?_⟩
            by_cases e : j = k
            · subst e; exact hq
            · exact Hall.out j hj (by omega)
          case measure => simp [intOf]; omega
        · have hsz : (100 : Int) < ((bs l[k].s).size : Int) := by rw [bs_size]; omega
          go_wp2
          go_ret
          exact ⟨rfl, g0⟩
      · have h110i : (40 : Int) ≤ (k : Int) := by omega
        have h100 : (30 : Int) < (l.length : Int) := by omega
        go_wp2
        go_ret
        exact ⟨ret_bool (by simp; omega), g0⟩
    · obtain rfl : k = l.length := by omega
      have h100 : (30 : Int) < (l.length : Int) := by
        rcases Nat.lt_or_ge 30 l.length with h | h
        · omega
        · exact absurd ⟨h, fun i hi => Hall.out i hi hi⟩ HF.out
      go_wp2
      go_ret
      exact ⟨ret_bool (by simp; omega), g0⟩


def th5M : List Nat := [1, 3, 4, 12, 16, 60, 124, 252, 256, 768, 1024, 3840, 7936, 16128, 32764, 65532, 131071, 196607, 327679]
def th5R (u : Value) (B N g off k n cap : Nat) (x : SibI) : List ((Nat → Value) → World → Prop) := [
  fun val _ => val 0 = .pointer (some ⟨B, 8, none⟩),
  fun val _ => val 1 = u,
  fun val _ => val 2 = .pointer (some ⟨N, 8, none⟩),
  fun val _ => val 3 = .slice (some ⟨g, off, none⟩) n cap,
  fun val _ => val 4 = .int .i64 (k : Int),
  fun val _ => val 5 = .pointer (some ⟨g, off + k * 3, none⟩),
  fun val _ => val 6 = .pointer (some ⟨g, off + k * 3, none⟩),
  fun val _ => val 7 = .agg (dv x.r x.n),
  fun val _ => val 8 = .pointer (some ⟨N, 8, none⟩),
  fun val _ => val 9 = .slice (some ⟨g, off, none⟩) n cap,
  fun val _ => val 10 = .int .i64 (k : Int),
  fun val _ => val 11 = .pointer (some ⟨g, off + k * 3, none⟩),
  fun val _ => val 12 = .pointer (some ⟨g, off + k * 3 + 2, none⟩),
  fun val _ => val 13 = .string (bs x.s),
  fun val _ => val 14 = .agg #[.int .u8 x.r, .int .u32 x.n, .string (bs x.s)],
  fun val W => ∃ z, (val 15) = z ∧ SL W z [x]]

set_option maxRecDepth 100000 in
set_option maxHeartbeats 4000000 in
theorem their_any (f : Nat → Nat) (v : Value) (l : List SibI) (w : World) (h : SL w v l) (hb : l.length ≤ 1000) :
    Calls Tryd.prog 12 #[rg f v] w (NewR f l w) := by
  obtain ⟨a, cap, rfl, h1, h2⟩ := h.slice
  unfold maxLen at h2
  have g0 : Frm (fun _ => False) w ((w.alloc (.cells (rgc f (.slice a l.length cap)) 27)).alloc (.cells rz 37)) := ((Frm.refl _ w).alloc _).alloc _
  have b0 : Blk ((w.alloc (.cells (rgc f (.slice a l.length cap)) 27)).alloc (.cells rz 37)) w.heap.size 27 (rgc f (.slice a l.length cap)) := (Blk.alloc w _ _).old _
  have b1 : Blk ((w.alloc (.cells (rgc f (.slice a l.length cap)) 27)).alloc (.cells rz 37)) (w.heap.size + 1) 37 rz := Blk.at1 w _ _ _
  go_enter Tryd.func12, Tryd.ntmps12
  go_upto_region 1 with fail
  generalize (w.alloc (.cells (rgc f (.slice a l.length cap)) 27)).alloc (.cells rz 37) = w1 at *
  obtain ⟨N, hN⟩ : ∃ N, w.heap.size = N := ⟨_, rfl⟩
  have HN := Lib.hid hN
  rw [hN] at b0 b1 ⊢
  clear hN
  have lf := load_ctx b0
  have b2 := Blk.alloc w1 37 rz
  have hN1 := b1.lt
  have HN1 := Lib.hid hN1
  go_upto_region 2 with (first
    | ((with_reducible refine wpl_load rfl _ rfl ?_ lf ?_); (focus rfl))
    | ((with_reducible refine wpl_store_blk rfl 37 _ _ rfl w1.heap.size (rgc f (.slice none 0 0)) rz ?_ ?_ b2 rfl ?_ ?_ ?_); (focus rfl); (focus rfl); (focus (show _ = some 9; kernel_rfl)); (focus (simp [Value.oneCell'])); intro w2 e2 g2 z2))
  obtain ⟨B, hB⟩ : ∃ B, w1.heap.size = B := ⟨_, rfl⟩
  have HLT := Lib.hid (show w1.heap.size ≤ B from Nat.le_of_eq hB)
  have g2' : Frm (fun _ => False) w1 w2 := ((Frm.refl _ w1).alloc _).next g2 (fun k hk h => by have h : k = w1.heap.size := h; omega)
  have HB := Lib.hid (fun W (g : Frm (fun _ => False) w1 W) => b0.keep g (fun h => h))
  have HB1 := Lib.hid (fun W (g : Frm (fun _ => False) w1 W) => b1.keep g (fun h => h))
  rw [hB] at e2 hN1 ⊢
  have F0 : FillT 37 w1 B f (l.take 0) (.slice none 0 0) w2 := ⟨e2, by rw [List.take_zero]; exact OwnL.nil_ _, fun _ h => (by cases h), g2', HLT.out⟩
  clear lf b2 g2 z2 hB b0 b1 g2' e2
  have hs := h.keepF g0
  go_wp2_with fail
  go_loopw [4] (fun i wr => ∃ (k : Nat) (u : Value), k ≤ l.length ∧ i = .int .i64 k ∧ FillT 37 w1 B f (l.take k) u wr) (fun i _ => l.length - (intOf i).toNat)
  case atStart => exact ⟨0, _, Nat.zero_le _, rfl, F0⟩
  case round =>
    obtain ⟨k, u, hk, rfl, F1⟩ := hrel
    clear F0
    have HF := Lib.hid F1
    have c8 := (HB.out wr F1.frm).cell 8 rfl
    clear F1
    by_cases hlt : k < l.length
    · obtain ⟨g, off, rfl, _, _, _⟩ := hs.cells k hlt
      have HX : Hid (∀ W, Frm (fun _ => False) wr W → W.cell? ⟨g, off + k * 3, none⟩ = some (.int .u8 l[k].r) ∧ W.cell? ⟨g, off + k * 3 + 1, none⟩ = some (.int .u32 l[k].n) ∧ W.cell? ⟨g, off + k * 3 + 2, none⟩ = some (.string (bs l[k].s))) := Lib.hid fun W gW => by
        obtain ⟨g2, off2, e, x0, x1, x2⟩ := (hs.keepF (HF.out.frm.trans gW)).cells k hlt
        cases e
        exact ⟨x0, x1, x2⟩
      replace HB : Hid (∀ W, Frm (fun _ => False) wr W → Blk W N 27 (rgc f (.slice (some ⟨g, off, none⟩) l.length cap))) := Lib.hid fun W gW => HB.out W (HF.out.frm.trans gW)
      obtain ⟨x, hx⟩ : ∃ x, l[k] = x := ⟨_, rfl⟩
      obtain ⟨n, hn⟩ : ∃ n, l.length = n := ⟨_, rfl⟩
      rw [hx] at HX
      rw [hn] at HB
      have HX1 := Lib.hid hx
      have HN2 := Lib.hid hn
      have hki' : (k : Int) < (l.length : Int) := by omega
      have hki : (k : Int) < (n : Int) := by omega
      have hk0 : (0 : Int) ≤ (k : Int) := by omega
      clear hx hn
      go_upto_region 5 with fail
      rename_i hK
      clear c8
      have D : Frm (fun _ => False) wr wr.drew := (Frm.refl _ _).drew
      refine wp_region_late 16 3 [] [[], [0], [], [2], [], [3, 4], [5], [6], [], [8], [], [9, 10], [11], [12], [7, 13], [14]] th5M (th5R u B N g off k n cap x) (by kernel_rfl) rfl rfl rfl (by kernel_rfl) (by kernel_rfl) (by kernel_rfl) (by kernel_rfl) rfl (by kernel_rfl) (by kernel_rfl) (by kernel_rfl) (by kernel_rfl) (fun val => ?_) ?_
      · try simp only [Act.put, List.setIfInBounds_toArray, List.set_cons_zero, List.set_cons_succ]
        refine RelO.next (k' := 1) rfl (fun W gW hF => ?_) ?_
        focus
          refine OpOK.val (u := .pointer (some ⟨B, 8, none⟩)) (by rfl) ?_ (fun W' _ => rfl)
          try simp only [tupAt]
          first | (go_simp; done) | (go_simp; with_reducible rfl) | (go_simp; rfl)
        try simp only [Act.put, List.setIfInBounds_toArray, List.set_cons_zero, List.set_cons_succ]
        refine RelO.next (k' := 2) rfl (fun W gW hF => ?_) ?_
        focus
          obtain ⟨h0, _⟩ := hF
          have e0 : val 0 = .pointer (some ⟨B, 8, none⟩) := h0 _ (Frm.refl _ W)
          try simp only [e0]
          try simp only [tupAt]
          have c8 := (HF.out.keep (D.trans gW)).blk.cell 8 rfl
          have a3 := Tryd.isAgg35
          have z3 := Tryd.sizeOf35
          exact OpOK.val (u := u) (by rfl) (by first | (go_simp; done) | (go_simp; with_reducible rfl) | (go_simp; rfl)) (fun W' _ => rfl)
        try simp only [Act.put, List.setIfInBounds_toArray, List.set_cons_zero, List.set_cons_succ]
        refine RelO.next (k' := 3) rfl (fun W gW hF => ?_) ?_
        focus
          refine OpOK.val (u := .pointer (some ⟨N, 8, none⟩)) (by rfl) ?_ (fun W' _ => rfl)
          try simp only [tupAt]
          first | (go_simp; done) | (go_simp; with_reducible rfl) | (go_simp; rfl)
        try simp only [Act.put, List.setIfInBounds_toArray, List.set_cons_zero, List.set_cons_succ]
        refine RelO.next (k' := 4) rfl (fun W gW hF => ?_) ?_
        focus
          obtain ⟨h2, _⟩ := hF
          have e2 : val 2 = .pointer (some ⟨N, 8, none⟩) := h2 _ (Frm.refl _ W)
          try simp only [e2]
          try simp only [tupAt]
          have c8 := (HB.out W (D.trans gW)).cell 8 rfl
          have a3 := Tryd.isAgg25
          have z3 := Tryd.sizeOf25
          exact OpOK.val (u := .slice (some ⟨g, off, none⟩) n cap) (by rfl) (by first | (go_simp; done) | (go_simp; with_reducible rfl) | (go_simp; rfl)) (fun W' _ => rfl)
        try simp only [Act.put, List.setIfInBounds_toArray, List.set_cons_zero, List.set_cons_succ]
        refine RelO.next (k' := 5) rfl (fun W gW hF => ?_) ?_
        focus
          refine OpOK.val (u := .int .i64 (k : Int)) (by rfl) ?_ (fun W' _ => rfl)
          try simp only [tupAt]
          first | (go_simp; done) | (go_simp; with_reducible rfl) | (go_simp; rfl)
        try simp only [Act.put, List.setIfInBounds_toArray, List.set_cons_zero, List.set_cons_succ]
        refine RelO.next (k' := 6) rfl (fun W gW hF => ?_) ?_
        focus
          obtain ⟨h3, h4, _⟩ := hF
          have e3 : val 3 = .slice (some ⟨g, off, none⟩) n cap := h3 _ (Frm.refl _ W)
          have e4 : val 4 = .int .i64 (k : Int) := h4 _ (Frm.refl _ W)
          try simp only [e4]
          try simp only [e3]
          try simp only [tupAt]
          refine OpOK.val (u := .pointer (some ⟨g, off + k * 3, none⟩)) (by rfl) ?_ (fun W' _ => rfl)
          try simp only [e4]
          try simp only [e3]
          try simp only [tupAt]
          first | (go_simp; done) | (go_simp; with_reducible rfl) | (go_simp; rfl)
        try simp only [Act.put, List.setIfInBounds_toArray, List.set_cons_zero, List.set_cons_succ]
        refine RelO.next (k' := 7) rfl (fun W gW hF => ?_) ?_
        focus
          obtain ⟨h5, _⟩ := hF
          have e5 : val 5 = .pointer (some ⟨g, off + k * 3, none⟩) := h5 _ (Frm.refl _ W)
          try simp only [e5]
          try simp only [tupAt]
          refine OpOK.val (u := .pointer (some ⟨g, off + k * 3, none⟩)) (by rfl) ?_ (fun W' _ => rfl)
          try simp only [e5]
          try simp only [tupAt]
          first | (go_simp; done) | (go_simp; with_reducible rfl) | (go_simp; rfl)
        try simp only [Act.put, List.setIfInBounds_toArray, List.set_cons_zero, List.set_cons_succ]
        refine RelO.next (k' := 8) rfl (fun W gW hF => ?_) ?_
        focus
          obtain ⟨h6, _⟩ := hF
          have e6 : val 6 = .pointer (some ⟨g, off + k * 3, none⟩) := h6 _ (Frm.refl _ W)
          try simp only [e6]
          try simp only [tupAt]
          obtain ⟨x0, x1, x2⟩ := HX.out W (D.trans gW)
          exact OpOK.val (u := .agg (dv x.r x.n)) (by rfl) (by first | (go_simp; done) | (go_simp; with_reducible rfl) | (go_simp; rfl)) (fun W' _ => rfl)
        try simp only [Act.put, List.setIfInBounds_toArray, List.set_cons_zero, List.set_cons_succ]
        refine RelO.next (k' := 9) rfl (fun W gW hF => ?_) ?_
        focus
          refine OpOK.val (u := .pointer (some ⟨N, 8, none⟩)) (by rfl) ?_ (fun W' _ => rfl)
          try simp only [tupAt]
          first | (go_simp; done) | (go_simp; with_reducible rfl) | (go_simp; rfl)
        try simp only [Act.put, List.setIfInBounds_toArray, List.set_cons_zero, List.set_cons_succ]
        refine RelO.next (k' := 10) rfl (fun W gW hF => ?_) ?_
        focus
          obtain ⟨h8, _⟩ := hF
          have e8 : val 8 = .pointer (some ⟨N, 8, none⟩) := h8 _ (Frm.refl _ W)
          try simp only [e8]
          try simp only [tupAt]
          have c8 := (HB.out W (D.trans gW)).cell 8 rfl
          have a3 := Tryd.isAgg25
          have z3 := Tryd.sizeOf25
          exact OpOK.val (u := .slice (some ⟨g, off, none⟩) n cap) (by rfl) (by first | (go_simp; done) | (go_simp; with_reducible rfl) | (go_simp; rfl)) (fun W' _ => rfl)
        try simp only [Act.put, List.setIfInBounds_toArray, List.set_cons_zero, List.set_cons_succ]
        refine RelO.next (k' := 11) rfl (fun W gW hF => ?_) ?_
        focus
          refine OpOK.val (u := .int .i64 (k : Int)) (by rfl) ?_ (fun W' _ => rfl)
          try simp only [tupAt]
          first | (go_simp; done) | (go_simp; with_reducible rfl) | (go_simp; rfl)
        try simp only [Act.put, List.setIfInBounds_toArray, List.set_cons_zero, List.set_cons_succ]
        refine RelO.next (k' := 12) rfl (fun W gW hF => ?_) ?_
        focus
          obtain ⟨h9, h10, _⟩ := hF
          have e9 : val 9 = .slice (some ⟨g, off, none⟩) n cap := h9 _ (Frm.refl _ W)
          have e10 : val 10 = .int .i64 (k : Int) := h10 _ (Frm.refl _ W)
          try simp only [e10]
          try simp only [e9]
          try simp only [tupAt]
          refine OpOK.val (u := .pointer (some ⟨g, off + k * 3, none⟩)) (by rfl) ?_ (fun W' _ => rfl)
          try simp only [e10]
          try simp only [e9]
          try simp only [tupAt]
          first | (go_simp; done) | (go_simp; with_reducible rfl) | (go_simp; rfl)
        try simp only [Act.put, List.setIfInBounds_toArray, List.set_cons_zero, List.set_cons_succ]
        refine RelO.next (k' := 13) rfl (fun W gW hF => ?_) ?_
        focus
          obtain ⟨h11, _⟩ := hF
          have e11 : val 11 = .pointer (some ⟨g, off + k * 3, none⟩) := h11 _ (Frm.refl _ W)
          try simp only [e11]
          try simp only [tupAt]
          refine OpOK.val (u := .pointer (some ⟨g, off + k * 3 + 2, none⟩)) (by rfl) ?_ (fun W' _ => rfl)
          try simp only [e11]
          try simp only [tupAt]
          first | (go_simp; done) | (go_simp; with_reducible rfl) | (go_simp; rfl)
        try simp only [Act.put, List.setIfInBounds_toArray, List.set_cons_zero, List.set_cons_succ]
        refine RelO.next (k' := 14) rfl (fun W gW hF => ?_) ?_
        focus
          obtain ⟨h12, _⟩ := hF
          have e12 : val 12 = .pointer (some ⟨g, off + k * 3 + 2, none⟩) := h12 _ (Frm.refl _ W)
          try simp only [e12]
          try simp only [tupAt]
          obtain ⟨x0, x1, x2⟩ := HX.out W (D.trans gW)
          exact OpOK.val (u := .string (bs x.s)) (by rfl) (by first | (go_simp; done) | (go_simp; with_reducible rfl) | (go_simp; rfl)) (fun W' _ => rfl)
        try simp only [Act.put, List.setIfInBounds_toArray, List.set_cons_zero, List.set_cons_succ]
        refine RelO.next (k' := 15) rfl (fun W gW hF => ?_) ?_
        focus
          obtain ⟨h7, h13, _⟩ := hF
          have e7 : val 7 = .agg (dv x.r x.n) := h7 _ (Frm.refl _ W)
          have e13 : val 13 = .string (bs x.s) := h13 _ (Frm.refl _ W)
          try simp only [e13]
          try simp only [e7]
          try simp only [tupAt]
          refine OpOK.val (u := .agg #[.int .u8 x.r, .int .u32 x.n, .string (bs x.s)]) (by rfl) ?_ (fun W' _ => rfl)
          try simp only [e13]
          try simp only [e7]
          try simp only [tupAt]
          first | (go_simp; done) | (go_simp; with_reducible rfl) | (go_simp; rfl)
        try simp only [Act.put, List.setIfInBounds_toArray, List.set_cons_zero, List.set_cons_succ]
        refine RelO.next (k' := 16) rfl (fun W gW hF => ?_) ?_
        focus
          obtain ⟨h14, _⟩ := hF
          have e14 : val 14 = .agg #[.int .u8 x.r, .int .u32 x.n, .string (bs x.s)] := h14 _ (Frm.refl _ W)
          try simp only [e14]
          try simp only [tupAt]
          refine OpOK.made (W' := W.alloc (.cells #[.int .u8 x.r, .int .u32 x.n, .string (bs x.s)] 80)) (u := .slice (some ⟨W.heap.size, 0, none⟩) 1 1) (by rfl) ?_ ((Frm.refl _ W).alloc _) (fun W2 g2 => ⟨_, rfl, (Sl.one W 80 x).keepF g2⟩)
          first | (go_simp; done) | (go_simp; with_reducible rfl) | (go_simp; rfl)
        try simp only [Act.put, List.setIfInBounds_toArray, List.set_cons_zero, List.set_cons_succ]
        exact RelO.nil
      intro val W gW hF
      obtain ⟨h0, h1, h2, h3, h4, h5, h6, h7, h8, h9, h10, h11, h12, h13, h14, h15, _⟩ := hF
      have e0 : val 0 = .pointer (some ⟨B, 8, none⟩) := h0 _ (Frm.refl _ W)
      have e1 : val 1 = u := h1 _ (Frm.refl _ W)
      have e2 : val 2 = .pointer (some ⟨N, 8, none⟩) := h2 _ (Frm.refl _ W)
      have e3 : val 3 = .slice (some ⟨g, off, none⟩) n cap := h3 _ (Frm.refl _ W)
      have e4 : val 4 = .int .i64 (k : Int) := h4 _ (Frm.refl _ W)
      have e5 : val 5 = .pointer (some ⟨g, off + k * 3, none⟩) := h5 _ (Frm.refl _ W)
      have e6 : val 6 = .pointer (some ⟨g, off + k * 3, none⟩) := h6 _ (Frm.refl _ W)
      have e7 : val 7 = .agg (dv x.r x.n) := h7 _ (Frm.refl _ W)
      have e8 : val 8 = .pointer (some ⟨N, 8, none⟩) := h8 _ (Frm.refl _ W)
      have e9 : val 9 = .slice (some ⟨g, off, none⟩) n cap := h9 _ (Frm.refl _ W)
      have e10 : val 10 = .int .i64 (k : Int) := h10 _ (Frm.refl _ W)
      have e11 : val 11 = .pointer (some ⟨g, off + k * 3, none⟩) := h11 _ (Frm.refl _ W)
      have e12 : val 12 = .pointer (some ⟨g, off + k * 3 + 2, none⟩) := h12 _ (Frm.refl _ W)
      have e13 : val 13 = .string (bs x.s) := h13 _ (Frm.refl _ W)
      have e14 : val 14 = .agg #[.int .u8 x.r, .int .u32 x.n, .string (bs x.s)] := h14 _ (Frm.refl _ W)
      have q15 : ∃ z, (val 15) = z ∧ SL W z [x] := h15 _ (Frm.refl _ W)
      obtain ⟨x30, e15, o30⟩ := q15
      clear h0 h1 h2 h3 h4 h5 h6 h7 h8 h9 h10 h11 h12 h13 h14 h15
      simp only [aO, Act.put, List.setIfInBounds_toArray, List.set_cons_zero, List.set_cons_succ, Nat.reduceAdd]
      try simp only [e15]
      try simp only [e14]
      try simp only [e13]
      try simp only [e12]
      try simp only [e11]
      try simp only [e10]
      try simp only [e9]
      try simp only [e8]
      try simp only [e7]
      try simp only [e6]
      try simp only [e5]
      try simp only [e4]
      try simp only [e3]
      try simp only [e2]
      try simp only [e1]
      try simp only [e0]
      try simp only [tupAt]
      refine tail_fillR (w0 := w1) B f (l.take k) [x] (by rw [List.length_take]; simp; omega) u x30 rfl rfl rfl rfl rfl rfl rfl rfl rfl rfl rfl rfl rfl rfl (HF.out.keep (D.trans gW)) o30 (fun v' W' => ?_) (fun v' => rfl) (fun v' => rfl) ?_
      · first | (go_simp; done) | (go_simp; with_reducible rfl) | (go_simp; rfl)
      intro v' w' F2
      try simp only [Act.put, List.setIfInBounds_toArray, List.set_cons_zero, List.set_cons_succ]
      refine hK _ _ ?_
      rw [← HX1.out, ← List.take_succ_eq_append_getElem hlt] at F2
      clear e0 e1 e2 e3 e4 e5 e6 e7 e8 e9 e10 e11 e12 e13 e14 o30 gW hK
      go_wp2_with fail
      go_roundw
      case rel => exact ⟨k + 1, v', by omega, by go_num, F2⟩
      case measure => simp [intOf]; omega
    · obtain rfl : k = l.length := by omega
      have F8 := HF.out
      rw [List.take_length] at F8
      clear HF
      have lR := load_rreg F8.blk
      have b1 := HB1.out wr F8.frm
      obtain ⟨a3, c3, rfl, _, _⟩ := Row.slice F8.own
      go_wp2_with (first
        | ((with_reducible refine wpl_load rfl _ rfl ?_ lR ?_); (focus rfl))
        | ((with_reducible refine wpl_store_blk rfl 37 _ _ rfl (N + 1) (rgc f (.slice a3 l.length c3)) rz ?_ ?_ b1 rfl ?_ ?_ ?_); (focus rfl); (focus rfl); (focus (show _ = some 9; kernel_rfl)); (focus (simp [Value.oneCell'])); intro w5 e5 g5 z5; have h2 := rcellsT e5; have c9 := e5.cell 8 rfl))
      refine bodyPost_ret (v := rg f (.slice a3 l.length c3)) (by simp [results, Tryd.results12, go_sem, h2, c9]) rfl ?_
      have hlo := fun g e => (F8.out g e).1
      exact ⟨_, rfl, F8.own.keep g5 (fun g e h => by have h : g = N + 1 := h; have := hlo g e; have := HN1.out; omega), (g0.trans F8.frm).next g5 (fun k hk h => by have h : k = N + 1 := h; have := HN.out; omega), fun g e => by have := hlo g e; have := HN.out; have := HN1.out; omega⟩
end Go.Proofs.YtiokabhidjafeaaDoor

