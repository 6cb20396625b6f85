/- For the examples: what the calls answer, and the ends of their regions. -/
import Derived.Test.YtehakbijhkpbbaaSibX
import Derived.Test.YtehakbijhkpbbaaRelT
import Derived.Test.YtehakbijhkpbbaaSibE
import Derived.Test.YtehakbijhkpbbaaSibF
import Derived.Test.YtehakbijhkpbbaaSibG
import Derived.Test.YtehakbijhkpbbaaSibK
import Derived.Lib.AppendZeros
namespace Go.Proofs.Ytehakbijhkpbbaa
open Go.RowKit

theorem writeS_ok {f f' : Nat → Nat} {l l' : List SibI} {r M : Nat} {over : List DotI} {s : List UInt8} {x : SibI} (h1 : okR f l = true) (hr : r < 8) (hM : mx f 8 = M) (hM2 : M < 65535) (hl : l.filter (fun x => !decide (x.d ∈ over)) = l') (hl8 : l'.length < 8) (hf : upd8 f r (M + 1) = f') (hx : mkSib r (M + 1) s = x) :
    writeS f l r over s = (f', l' ++ [x], (r, M + 1), 0) := by
  have hn : nextS8 f r = (f', (r, M + 1), 0) := by
    unfold nextS8
    rw [if_neg (by omega), hM, if_neg (by omega), hf]
  have hd : dropS f l r over = (f', l', (r, M + 1), 0) := by
    unfold dropS
    rw [h1, hn, hl]
    rfl
  unfold writeS
  rw [hd]
  simp only [if_true]
  rw [if_neg (by omega), hx]
theorem dropS_okk {f f' : Nat → Nat} {l l' : List SibI} {r M : Nat} {over : List DotI} (h1 : okR f l = true) (hr : r < 8) (hM : mx f 8 = M) (hM2 : M < 65535) (hl : l.filter (fun x => !decide (x.d ∈ over)) = l') (hf : upd8 f r (M + 1) = f') :
    dropS f l r over = (f', l', (r, M + 1), 0) := by
  have hn : nextS8 f r = (f', (r, M + 1), 0) := by
    unfold nextS8
    rw [if_neg (by omega), hM, if_neg (by omega), hf]
  unfold dropS
  rw [h1, hn, hl]
  rfl

/-- The first numbers of a context, the others being 0. -/
def fC (a b c : Nat) : Nat → Nat := fun k => if k = 0 then a else if k = 1 then b else if k = 2 then c else 0
theorem fC_fit {a b c : Nat} (ha : a < 4294967296) (hb : b < 4294967296) (hc : c < 4294967296) : Fit8 (fC a b c) := fun k _ => by unfold fC; split <;> (try split) <;> (try split) <;> omega
theorem f1_fC : f1 = fC 1 0 0 := by
  funext k
  unfold f1 fC
  split
  · rfl
  · split
    · rfl
    · split <;> rfl
theorem upd_1 (a b c n : Nat) : upd8 (fC a b c) 1 n = fC a n c := by
  funext k; unfold upd8 fC; rcases k with _ | _ | _ | k <;> simp
theorem upd_2 (a b c n : Nat) : upd8 (fC a b c) 2 n = fC a b n := by
  funext k; unfold upd8 fC; rcases k with _ | _ | _ | k <;> simp
theorem jn_fC (a b c x y z : Nat) : jn8 (fC a b c) (fC x y z) = fC (max a x) (max b y) (max c z) := by
  funext k; unfold jn8 fC; rcases k with _ | _ | _ | k <;> simp

def sB : SibI := ⟨1, 2, [98], by decide, by decide, by decide⟩
def sC : SibI := ⟨2, 2, [99], by decide, by decide, by decide⟩
def dA : DotI := ⟨0, 1, by decide, by decide⟩
theorem mk_B : mkSib 1 2 [98] = sB := mkSib_eq (by decide) (by decide) (by decide)
theorem mk_C : mkSib 2 2 [99] = sC := mkSib_eq (by decide) (by decide) (by decide)

theorem eq_a : writeS f1 [sA] 1 [dA] [98] = (fC 1 2 0, [sB], (1, 2), 0) := writeS_ok (M := 1) (l' := []) (by decide) (by decide) (by decide) (by decide) (by decide) (by decide) (by rw [f1_fC, upd_1]) mk_B
theorem eq_b : writeS f1 [sA] 1 [] [98] = (fC 1 2 0, [sA, sB], (1, 2), 0) := writeS_ok (M := 1) (l' := [sA]) (by decide) (by decide) (by decide) (by decide) (by decide) (by decide) (by rw [f1_fC, upd_1]) mk_B
theorem eq_c : dropS f1 [sA] 1 [dA] = (fC 1 2 0, [], (1, 2), 0) := dropS_okk (M := 1) (l' := []) (by decide) (by decide) (by decide) (by decide) (by decide) (by rw [f1_fC, upd_1])
theorem eq_k : writeS f1 [sA] 2 [dA] [99] = (fC 1 0 2, [sC], (2, 2), 0) := writeS_ok (M := 1) (l' := []) (by decide) (by decide) (by decide) (by decide) (by decide) (by decide) (by rw [f1_fC, upd_2]) mk_C

theorem kw_a (v vo : Value) (W : World) (h : SL W v [sA]) (ho : DL W vo [dA]) : Calls Try.prog 18 #[rg f1 v, .int .u8 1, vo, .string (bs [98])] W (RegTo (fC 1 2 0, [sB], (1, 2), 0) W) := by
  rw [← eq_a]; exact swrite_any f1 v [sA] 1 vo [dA] [98] W f1_fit h (by decide) (by decide) ho (by decide)
theorem kw_b (v : Value) (W : World) (h : SL W v [sA]) : Calls Try.prog 18 #[rg f1 v, .int .u8 1, .slice none 0 0, .string (bs [98])] W (RegTo (fC 1 2 0, [sA, sB], (1, 2), 0) W) := by
  rw [← eq_b]; exact swrite_any f1 v [sA] 1 (.slice none 0 0) [] [98] W f1_fit h (by decide) (by decide) (Sl.ofRow (Row.nil_ W 2)) (by decide)
theorem kw_k (v vo : Value) (W : World) (h : SL W v [sA]) (ho : DL W vo [dA]) : Calls Try.prog 18 #[rg f1 v, .int .u8 2, vo, .string (bs [99])] W (RegTo (fC 1 0 2, [sC], (2, 2), 0) W) := by
  rw [← eq_k]; exact swrite_any f1 v [sA] 2 vo [dA] [99] W f1_fit h (by decide) (by decide) ho (by decide)
theorem kd_c (v vo : Value) (W : World) (h : SL W v [sA]) (ho : DL W vo [dA]) : Calls Try.prog 26 #[rg f1 v, .int .u8 1, vo] W (RegTo (fC 1 2 0, [], (1, 2), 0) W) := by
  rw [← eq_c]; exact drop_any f1 v [sA] 1 vo [dA] W f1_fit h (by decide) (by decide) ho
theorem DL.one (w : World) (x : DotI) : DL (w.alloc (.cells #[.int .u8 x.r, .int .u32 x.n] 27)) (.slice (some ⟨w.heap.size, 0, none⟩) 1 1) [x] :=
  Sl.ofRow (Row.made w 27 2 1 1 (dotc x) (dotc x).toArray rfl (Nat.le_refl _) (by decide) rfl rfl)

theorem Hid.grow {P : World → Prop} {w w' : World} (H : Hid (∀ W, Frm (fun _ => False) w W → P W)) (g : Frm (fun _ => False) w w') : Hid (∀ W, Frm (fun _ => False) w' W → P W) := Lib.hid fun W g' => H.out W (g.trans g')

theorem OwnL.notDot {W : World} {v : Value} {x : SibI} {l : List SibI} {V : Nat} {p q' : Value} (h : OwnL W v (x :: l)) (hb : Blk W V 27 #[p, q']) : ∀ g, v.ownBlock = some g → ¬ g = V := by
  intro g hg e
  subst e
  rcases h.2 with ⟨rfl, _⟩ | ⟨g', cap, rfl, _, _, _, h4, _⟩
  · cases hg
  · cases hg
    have c1 := h4 2 (by simp only [List.length_cons]; omega)
    have c2 : ∀ q, Blk W q 27 #[p, q'] → W.cell? ⟨q, 2, none⟩ = none := fun q hb => by
      simp only [Blk] at hb
      simp only [World.cell?, hb]
      rfl
    rw [c2 _ hb] at c1
    simp [flat, sibc] at c1
theorem SL.nil_of {W W' : World} {v : Value} (h : SL W v []) : SL W' v [] := by
  obtain ⟨h1, a, cap, rfl, h2, h3, _⟩ := h
  exact ⟨h1, a, cap, rfl, h2, h3, .inl rfl⟩

section
variable {ops : Array Oper} {Q : Exit → Act → World → Prop} {r : Nat} {a : Act} {w W : World}
/-- A register and a dot are stored in new blocks, an error is kept: the end of such a region. -/
theorem tail_reg3 {o1 o2 o3 : Oper} {x1 y1 x2 y2 x3 : Operand} {d : Tmp} (f : Nat → Nat) (v : Value) (l : List SibI) (V V2 p q : Nat) (E : Int)
    (i1 : ops[r]? = some o1) (i2 : ops[r + 1]? = some o2) (i3 : ops[r + 1 + 1]? = some o3) (g1 : o1.guard = none) (g2 : o2.guard = none) (g3 : o3.guard = none) (n1 : o1.dst = none) (n2 : o2.dst = none) (n3 : o3.dst = some d)
    (p1 : o1.op = .store 39 x1 y1) (p2 : o2.op = .store 27 x2 y2) (p3 : o3.op = .assign x3)
    (hx1 : a.eval x1 = .pointer (some ⟨V, 0, none⟩)) (hy1 : a.eval y1 = rg f v) (hx2 : a.eval x2 = .pointer (some ⟨V2, 0, none⟩)) (hy2 : a.eval y2 = .agg (dv p q)) (hx3 : a.eval x3 = .int .i64 E)
    (hF : Frm (fun _ => False) w W) (hV : w.heap.size ≤ V) (hV2 : w.heap.size ≤ V2) (o : OwnL W v l) (b1 : Blk W V 39 rz) (b2 : Blk W V2 27 dz)
    (h : ∀ w2, Frm (fun _ => False) w w2 → Hid (∀ W', Frm (fun _ => False) w2 W' → Blk W' V 39 (rgc f v) ∧ SL W' v l) → Hid (∀ W', Frm (fun _ => False) w2 W' → Blk W' V2 27 (dv p q)) → Q .normal (a.put (some d) (.int .i64 E)) w2) : wpTail Try.prog ops Q r 3 a W := by
  have hne : V ≠ V2 := by
    intro e
    subst e
    simp only [Blk] at b1 b2
    rw [b1] at b2
    cases b2
  obtain ⟨av, cv, ev, _, _⟩ := o.sl.slice
  refine row_step i1 g1 n1 39 _ _ p1 V (rgc f v) rz hx1 hy1 b1 rfl (show _ = some 9 by kernel_rfl) (by simp [Value.oneCell', ev]) fun w1 c1 f1 z1 => ?_
  refine row_step i2 g2 n2 27 _ _ p2 V2 (dv p q) dz hx2 hy2 (b2.keep f1 (Ne.symm hne)) rfl (show _ = some 2 by kernel_rfl) (by simp [Value.oneCell']) fun w2 c2 f2 z2 => ?_
  refine wpTail.assign i3 g3 n3 p3 hx3 ?_
  have s2 : SL w2 v l := by
    cases l with
    | nil => exact o.sl.nil_of
    | cons x l =>
      have s1 := o.sl.keep f1 fun g hg => o.notReg (f := fun _ => 0) (u := .slice none 0 0) b1 g (o.blkOf g hg)
      exact s1.keep f2 fun g hg => o.notDot b2 g (o.blkOf g hg)
  have b3 := c1.keep f2 hne
  refine h w2 ?_ (Lib.hid fun W' g => ⟨b3.keep g (fun h => h), s2.keepF g⟩) (Lib.hid fun W' g => c2.keep g (fun h => h))
  exact (hF.next f1 fun k hk h => by
    have h : k = V := h
    omega).next f2 fun k hk h => by
    have h : k = V2 := h
    omega
/-- The same, without a dot. -/
theorem tail_reg1 {o1 o3 : Oper} {x1 y1 x3 : Operand} {d : Tmp} (f : Nat → Nat) (v : Value) (l : List SibI) (V : Nat) (E : Int)
    (i1 : ops[r]? = some o1) (i3 : ops[r + 1]? = some o3) (g1 : o1.guard = none) (g3 : o3.guard = none) (n1 : o1.dst = none) (n3 : o3.dst = some d)
    (p1 : o1.op = .store 39 x1 y1) (p3 : o3.op = .assign x3)
    (hx1 : a.eval x1 = .pointer (some ⟨V, 0, none⟩)) (hy1 : a.eval y1 = rg f v) (hx3 : a.eval x3 = .int .i64 E)
    (hF : Frm (fun _ => False) w W) (hV : w.heap.size ≤ V) (o : OwnL W v l) (b1 : Blk W V 39 rz)
    (h : ∀ w2, Frm (fun _ => False) w w2 → Hid (∀ W', Frm (fun _ => False) w2 W' → Blk W' V 39 (rgc f v) ∧ SL W' v l) → Q .normal (a.put (some d) (.int .i64 E)) w2) : wpTail Try.prog ops Q r 2 a W := by
  obtain ⟨av, cv, ev, _, _⟩ := o.sl.slice
  refine row_step i1 g1 n1 39 _ _ p1 V (rgc f v) rz hx1 hy1 b1 rfl (show _ = some 9 by kernel_rfl) (by simp [Value.oneCell', ev]) fun w1 c1 f1 z1 => ?_
  refine wpTail.assign i3 g3 n3 p3 hx3 ?_
  have s1 : SL w1 v l := by
    cases l with
    | nil => exact o.sl.nil_of
    | cons x l => exact o.sl.keep f1 fun g hg => o.notReg (f := fun _ => 0) (u := .slice none 0 0) b1 g (o.blkOf g hg)
  refine h w1 ?_ (Lib.hid fun W' g => ⟨c1.keep g (fun h => h), s1.keepF g⟩)
  exact hF.next f1 fun k hk h => by
    have h : k = V := h
    omega
end
theorem SL.two (w : World) (x y : SibI) : SL (w.alloc (.cells #[.int .u8 x.r, .int .u32 x.n, .string (bs x.s), .int .u8 y.r, .int .u32 y.n, .string (bs y.s)] 76)) (.slice (some ⟨w.heap.size, 0, none⟩) 2 2) [x, y] :=
  OwnL.sl (Row.made w 76 3 2 2 (flat sibc [x, y]) (flat sibc [x, y]).toArray rfl (Nat.le_refl _) (by decide) rfl rfl)
theorem perm_two {l : List SibI} {x y : SibI} (h : l.Perm [x, y]) (ho : inOrder l) (hxy : ltD x y) : l = [x, y] := by
  have hlen := h.length_eq
  match l, hlen with
  | [p, q], _ =>
    have hne : x ≠ y := fun e => by subst e; unfold ltD at hxy; omega
    have hx : x ∈ [p, q] := h.mem_iff.2 (by simp)
    have hy : y ∈ [p, q] := h.mem_iff.2 (by simp)
    simp only [List.mem_cons, List.not_mem_nil, or_false] at hx hy
    rcases hx with rfl | rfl
    · rcases hy with rfl | rfl
      · exact absurd rfl hne
      · rfl
    · rcases hy with rfl | rfl
      · exact absurd hxy (ho 0 1 (by simp) (by simp) (by omega))
      · exact absurd rfl hne
theorem joinIs_ok {f g f' : Nat → Nat} {l m l' L : List SibI} {e : Nat} (h : JoinIs f g l m f' l' e) (hok : (okR f l && okR g m) = true) (hL : stayL f g l m = L) (h8 : L.length ≤ 8) : e = 0 ∧ f' = jn8 f g ∧ l'.Perm L ∧ inOrder l' := by
  unfold JoinIs at h
  rw [hL] at h
  rcases h with h | h | h
  · rw [hok] at h; cases h.1
  · omega
  · exact ⟨h.2.2.1, h.2.2.2.1, h.2.2.2.2.1, h.2.2.2.2.2⟩
theorem join_m {f' : Nat → Nat} {l' : List SibI} {e : Nat} (h : JoinIs (fC 1 2 0) (fC 1 0 2) [sB] [sC] f' l' e) : e = 0 ∧ f' = fC 1 2 2 ∧ l' = [sB, sC] := by
  obtain ⟨h1, h2, h3, h4⟩ := joinIs_ok (L := [sB, sC]) h (by decide) (by decide) (by decide)
  exact ⟨h1, by rw [h2, jn_fC]; rfl, perm_two h3 h4 (.inr ⟨rfl, by decide⟩)⟩
theorem join_n {f' : Nat → Nat} {l' : List SibI} {e : Nat} (h : JoinIs f1 (fC 1 2 0) [sA] [] f' l' e) : e = 0 ∧ f' = fC 1 2 0 ∧ l' = [] := by
  obtain ⟨h1, h2, h3, h4⟩ := joinIs_ok (L := []) h (by decide) (by decide) (by decide)
  exact ⟨h1, by rw [h2, f1_fC, jn_fC]; rfl, h3.eq_nil⟩
theorem join_t {f' : Nat → Nat} {l' : List SibI} {e : Nat} (h : JoinIs f1 (fC 65536 0 0) [sA] [] f' l' e) : e = 4 ∧ f' = (fun _ => 0) ∧ l' = [] := by
  have hok : (okR f1 [sA] && okR (fC 65536 0 0) []) = false := by decide
  unfold JoinIs at h
  rw [hok] at h
  rcases h with h | h | h
  · exact ⟨h.2.1, h.2.2.2, h.2.2.1⟩
  · cases h.1
  · cases h.1
theorem eq_p : writeS f1 [sA] 8 [] [98] = (fun _ => 0, [], (0, 0), 2) := by
  have hd : dropS f1 [sA] 8 [] = (fun _ => 0, [], (0, 0), 2) := by
    unfold dropS
    rw [(by decide : okR f1 [sA] = true)]
    rfl
  unfold writeS
  rw [hd]
  rfl
theorem eq_q : writeS (fC 0 65535 0) [] 0 [] [98] = (fun _ => 0, [], (0, 0), 12) := by
  have hn : nextS8 (fC 0 65535 0) 0 = (fun _ => 0, (0, 0), 12) := by
    unfold nextS8
    rw [if_neg (by decide), if_pos (by decide)]
  have hd : dropS (fC 0 65535 0) [] 0 [] = (fun _ => 0, [], (0, 0), 12) := by
    unfold dropS
    rw [(by decide : okR (fC 0 65535 0) [] = true), hn]
    rfl
  unfold writeS
  rw [hd]
  rfl
def sE : SibI := ⟨0, 2, [], by decide, by decide, by decide⟩
theorem eq_s : dropS (fC 1 0 0) [sE] 0 [] = (fun _ => 0, [], (0, 0), 4) := by
  unfold dropS
  rw [(by decide : okR (fC 1 0 0) [sE] = false)]
  rfl
theorem kw_p (v : Value) (W : World) (h : SL W v [sA]) : Calls Try.prog 18 #[rg f1 v, .int .u8 8, .slice none 0 0, .string (bs [98])] W (RegTo (fun _ => 0, [], (0, 0), 2) W) := by
  rw [← eq_p]; exact swrite_any f1 v [sA] 8 (.slice none 0 0) [] [98] W f1_fit h (by decide) (by decide) (Sl.ofRow (Row.nil_ W 2)) (by decide)
theorem kw_q (W : World) : Calls Try.prog 18 #[rg (fC 0 65535 0) (.slice none 0 0), .int .u8 0, .slice none 0 0, .string (bs [98])] W (RegTo (fun _ => 0, [], (0, 0), 12) W) := by
  rw [← eq_q]; exact swrite_any (fC 0 65535 0) (.slice none 0 0) [] 0 (.slice none 0 0) [] [98] W (fC_fit (by decide) (by decide) (by decide)) (OwnL.nil_ W).sl (by decide) (by decide) (Sl.ofRow (Row.nil_ W 2)) (by decide)
theorem kd_s (v : Value) (W : World) (h : SL W v [sE]) : Calls Try.prog 26 #[rg (fC 1 0 0) v, .int .u8 0, .slice none 0 0] W (RegTo (fun _ => 0, [], (0, 0), 4) W) := by
  rw [← eq_s]; exact drop_any (fC 1 0 0) v [sE] 0 (.slice none 0 0) [] W (fC_fit (by decide) (by decide) (by decide)) h (by decide) (by decide) (Sl.ofRow (Row.nil_ W 2))
section
variable {ops : Array Oper} {Q : Exit → Act → World → Prop} {r m : Nat} {a : Act} {w W : World}
/-- An empty register is stored in a new block. -/
theorem tail_reg0 {o1 : Oper} {x1 y1 : Operand} (f : Nat → Nat) (V : Nat)
    (i1 : ops[r]? = some o1) (g1 : o1.guard = none) (n1 : o1.dst = none) (p1 : o1.op = .store 39 x1 y1)
    (hx1 : a.eval x1 = .pointer (some ⟨V, 0, none⟩)) (hy1 : a.eval y1 = rg f (.slice none 0 0)) (hF : Frm (fun _ => False) w W) (hV : w.heap.size ≤ V) (b1 : Blk W V 39 rz)
    (h : ∀ w2, Frm (fun _ => False) w w2 → Blk w2 V 39 (rgc f (.slice none 0 0)) → Q .normal a w2) : wpTail Try.prog ops Q r 1 a W := by
  refine row_step i1 g1 n1 39 _ _ p1 V (rgc f (.slice none 0 0)) rz hx1 hy1 b1 rfl (show _ = some 9 by kernel_rfl) (by simp [Value.oneCell']) fun w1 c1 f1 z1 => ?_
  refine h w1 ?_ c1
  exact hF.next f1 fun k hk h => by
    have h : k = V := h
    omega
theorem wpTail.val {o : Oper} {d : Tmp} {v : Value} (hi : ops[r]? = some o) (hg : o.guard = none) (hd : o.dst = some d) (h : (execOp a.eval o).run Try.prog W = .ok (.value v) W) (hK : wpTail Try.prog ops Q (r + 1) m (a.put (some d) v) W) : wpTail Try.prog ops Q r (m + 1) a W := by
  refine wpTail.cons hi hg fun K hK' => ?_
  unfold Oper.wp
  rw [h]
  refine hK' _ _ ?_
  rw [hd]
  exact hK
/-- Siblings are appended. -/
theorem wpTail.append {o : Oper} {d : Tmp} {x y : Operand} {l ms : List SibI} {v u : Value} (hi : ops[r]? = some o) (hg : o.guard = none) (hd : o.dst = some d)
    (ho : o.op = .call ⟨.builtin .append, #[x, y], #[37, 37]⟩) (ht : o.type = 37) (hx : a.eval x = v) (hy : a.eval y = u) (h : OwnL W v l) (hs : SL W u ms) (hb : l.length + ms.length ≤ 1000000)
    (hK : ∀ v' W', OwnL W' v' (l ++ ms) → W.grownBy W' v.ownBlock → (∀ g, v'.ownBlock = some g → v.ownBlock = some g ∨ W.heap.size ≤ g) → wpTail Try.prog ops Q (r + 1) m (a.put (some d) v') W') : wpTail Try.prog ops Q r (m + 1) a W := by
  obtain ⟨v', W', hrun, h1, h2, h3⟩ := append_sibs W v u l ms h hs hb
  refine wpTail.cons hi hg fun K hK' => ?_
  refine Lib.wp_append_run W x y _ _ ho v u hx hy v' W' (by rw [ht]; exact hrun) ?_
  rw [hd]
  exact hK' _ _ (hK v' W' h1 h2 h3)
theorem wpTail.store_L {o : Oper} (hi : ops[r]? = some o) (hgd : o.guard = none) (hd : o.dst = none) (x y : Operand) (ho : o.op = .store 37 x y)
    (b : Nat) (f : Nat → Nat) (v : Value) (av : Option Addr) (n c : Nat) (hx : a.eval x = .pointer (some ⟨b, 8, none⟩)) (hy : a.eval y = .slice av n c) (h : Blk W b 39 (rgc f v))
    (hK : ∀ w', Blk w' b 39 (rgc f (.slice av n c)) → Frm (· = b) W w' → w'.heap.size = W.heap.size → wpTail Try.prog ops Q (r + 1) m a w') : wpTail Try.prog ops Q r (m + 1) a W := by
  have c0 := h.cell 8 rfl
  have f0 := h.free 8
  have a3 := Try.isAgg37
  have z3 := Try.sizeOf37
  refine wpTail.cons hi hgd fun K hK' => ?_
  unfold Oper.wp execOp
  simp only [ho, hx, hy]
  go_simp
  refine hK' _ _ (hK _ ?_ ?_ ?_)
  · exact h.set 8 _
  · exact (Frm.refl (· = b) W).setCell (p := ⟨b, 8, none⟩) (fun _ => rfl) _
  · simp [World.setCell]
end
def sV (q : Nat) (h : q < 4294967296) : SibI := ⟨0, q, [118], by decide, h, by decide⟩
def fullL (k : Nat) : List SibI := (List.range k).map fun i => mkSib 0 (i + 1) [118]
theorem fullL_len (k : Nat) : (fullL k).length = k := by simp [fullL]
theorem fullL_succ (k : Nat) (h : k + 1 < 4294967296) : fullL k ++ [sV (k + 1) h] = fullL (k + 1) := by
  unfold fullL
  rw [List.range_succ, List.map_append, List.map_cons, List.map_nil, mkSib_eq (by decide) h (by decide)]
  rfl
/-- One more is appended to the register that fills. -/
structure Fill (w0 : World) (B k : Nat) (v : Value) (W : World) : Prop where
  blk : Blk W B 39 (rgc (fC 8 0 0) v)
  own : OwnL W v (fullL k)
  out : ∀ g, v.ownBlock = some g → w0.heap.size ≤ g ∧ g ≠ B
  frm : Frm (fun _ => False) w0 W
  lo : w0.heap.size ≤ B
theorem Fill.keep {w0 W W' : World} {B k : Nat} {v : Value} (h : Fill w0 B k v W) (g : Frm (fun _ => False) W W') : Fill w0 B k v W' := ⟨h.blk.keep g (fun h => h), h.own.keep g (fun _ _ h => h), h.out, h.frm.trans g, h.lo⟩
theorem tail_fill {ops : Array Oper} {Q : Exit → Act → World → Prop} {r : Nat} {a : Act} {w0 W : World} {o1 o2 o3 : Oper} {x1 y1 x2 y2 : Operand} {d1 d2 : Tmp} (B q : Nat) (hq : q + 1 < 4294967296) (hq8 : q < 8) (v u : Value)
    (i1 : ops[r]? = some o1) (i2 : ops[r + 1]? = some o2) (i3 : ops[r + 1 + 1]? = some o3) (g1 : o1.guard = none) (g2 : o2.guard = none) (g3 : o3.guard = none) (n1 : o1.dst = some d1) (n2 : o2.dst = some d2) (n3 : o3.dst = none)
    (p1 : o1.op = .call ⟨.builtin .append, #[x1, y1], #[37, 37]⟩) (t1 : o1.type = 37) (p3 : o3.op = .store 37 x2 y2)
    (hx1 : a.eval x1 = v) (hy1 : a.eval y1 = u) (h : Fill w0 B q v W) (hs : SL W u [sV (q + 1) hq])
    (h2 : ∀ v' W', (execOp (a.put (some d1) v').eval o2).run Try.prog W' = .ok (.value (.pointer (some ⟨B, 8, none⟩))) W')
    (hx2 : ∀ v', ((a.put (some d1) v').put (some d2) (.pointer (some ⟨B, 8, none⟩))).eval x2 = .pointer (some ⟨B, 8, none⟩)) (hy2 : ∀ v', ((a.put (some d1) v').put (some d2) (.pointer (some ⟨B, 8, none⟩))).eval y2 = v')
    (hK : ∀ v' W', Fill w0 B (q + 1) v' W' → Q .normal ((a.put (some d1) v').put (some d2) (.pointer (some ⟨B, 8, none⟩))) W') : wpTail Try.prog ops Q r 3 a W := by
  refine wpTail.append i1 g1 n1 p1 t1 hx1 hy1 h.own hs (by rw [fullL_len]; simp; omega) fun v' W1 o1 gr nb => ?_
  have hX : Frm (fun k => v.ownBlock = some k) W W1 := (Frm.refl _ W).grown gr (fun k _ e => e)
  have b1 := h.blk.keep hX (fun e => (h.out _ e).2 rfl)
  rw [fullL_succ] at o1
  obtain ⟨a6, c6, rfl, _, _⟩ := Row.slice o1
  have hlt : B < W.heap.size := (Array.getElem?_eq_some_iff.1 h.blk).1
  have nn : ∀ g, (Value.slice a6 (fullL (q + 1)).length c6).ownBlock = some g → w0.heap.size ≤ g ∧ g ≠ B := fun g e => (nb g e).elim (fun e => h.out g e) (fun e => ⟨Nat.le_trans h.frm.size e, by omega⟩)
  refine wpTail.val i2 g2 n2 (h2 _ W1) ?_
  refine wpTail.store_L i3 g3 n3 _ _ p3 B (fC 8 0 0) v a6 (fullL (q + 1)).length c6 (hx2 _) (hy2 _) b1 fun w7 b7 g7 z7 => ?_
  refine hK _ w7 ⟨b7, o1.keep g7 (fun g e => (nn g e).2), nn, (h.frm.next hX fun k hk e => ?_).next g7 fun k hk e => ?_, h.lo⟩
  · have := (h.out k e).1; omega
  · have e : k = B := e
    have := h.lo
    omega
def sW : SibI := ⟨1, 9, [98], by decide, by decide, by decide⟩
def d8 : DotI := ⟨0, 8, by decide, by decide⟩
theorem ok_full : okR (fC 8 0 0) (fullL 8) = true := by kernel_rfl
theorem eq_v : writeS (fC 8 0 0) (fullL 8) 1 [] [98] = (fun _ => 0, [], (0, 0), 7) := by
  have hd : dropS (fC 8 0 0) (fullL 8) 1 [] = (fC 8 9 0, fullL 8, (1, 9), 0) := dropS_okk (M := 8) ok_full (by decide) (by decide) (by decide) (by simp) (by rw [upd_1])
  unfold writeS
  rw [hd]
  simp only [if_true, fullL_len]
  rfl
theorem eq_w : writeS (fC 8 0 0) (fullL 8) 1 [d8] [98] = (fC 8 9 0, fullL 7 ++ [sW], (1, 9), 0) :=
  writeS_ok (M := 8) (l' := fullL 7) ok_full (by decide) (by decide) (by decide) (by kernel_rfl) (by rw [fullL_len]; decide) (by rw [upd_1]) (mkSib_eq (by decide) (by decide) (by decide))
theorem len_w : (fullL 7 ++ [sW]).length = 8 := by rw [List.length_append, fullL_len]; rfl
theorem join_z {f' : Nat → Nat} {l' : List SibI} {e : Nat} (h : JoinIs (fC 8 0 0) (fC 0 9 0) (fullL 8) [sW] f' l' e) : e = 7 ∧ f' = (fun _ => 0) ∧ l' = [] := by
  have hok : (okR (fC 8 0 0) (fullL 8) && okR (fC 0 9 0) [sW]) = true := by kernel_rfl
  have hl : (stayL (fC 8 0 0) (fC 0 9 0) (fullL 8) [sW]).length = 9 := by kernel_rfl
  unfold JoinIs at h
  rw [hok, hl] at h
  rcases h with h | h | h
  · cases h.1
  · exact ⟨h.2.2.1, h.2.2.2.2, h.2.2.2.1⟩
  · omega
theorem chk_full : chkS (fC 8 0 0) (fullL 8) = 0 := by
  unfold chkS
  rw [ok_full]
  rfl
theorem kw_v (v : Value) (W : World) (h : SL W v (fullL 8)) : Calls Try.prog 18 #[rg (fC 8 0 0) v, .int .u8 1, .slice none 0 0, .string (bs [98])] W (RegTo (fun _ => 0, [], (0, 0), 7) W) := by
  rw [← eq_v]; exact swrite_any (fC 8 0 0) v (fullL 8) 1 (.slice none 0 0) [] [98] W (fC_fit (by decide) (by decide) (by decide)) h (by rw [fullL_len]; decide) (by decide) (Sl.ofRow (Row.nil_ W 2)) (by decide)
theorem kw_w (v vo : Value) (W : World) (h : SL W v (fullL 8)) (ho : DL W vo [d8]) : Calls Try.prog 18 #[rg (fC 8 0 0) v, .int .u8 1, vo, .string (bs [98])] W (RegTo (fC 8 9 0, fullL 7 ++ [sW], (1, 9), 0) W) := by
  rw [← eq_w]; exact swrite_any (fC 8 0 0) v (fullL 8) 1 vo [d8] [98] W (fC_fit (by decide) (by decide) (by decide)) h (by rw [fullL_len]; decide) (by decide) ho (by decide)
theorem kc_full (v : Value) (W : World) (h : SL W v (fullL 8)) : Calls Try.prog 22 #[rg (fC 8 0 0) v] W fun e w' => e = .returned (.int .i64 0) ∧ Frm (fun _ => False) W w' := by
  have h1 := check_any (fC 8 0 0) v (fullL 8) W (fC_fit (by decide) (by decide) (by decide)) h (by rw [fullL_len]; decide)
  rw [chk_full] at h1
  exact h1
end Go.Proofs.Ytehakbijhkpbbaa

