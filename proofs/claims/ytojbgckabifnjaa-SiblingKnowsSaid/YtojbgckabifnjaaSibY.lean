/- As Rel, for a region that goes in the text's order. Of no program. No condition. -/
import Derived.Test.YtojbgckabifnjaaLate
import Derived.Test.YtojbgckabifnjaaSibX
import Derived.Test.YtojbgckabifnjaaSibE
import Derived.Test.YtojbgckabifnjaaSibF
import Derived.Test.YtojbgckabifnjaaSibG
import Derived.Test.YtojbgckabifnjaaSibO
import Derived.Lib.AppendZeros
section
namespace Go.Proofs.Ytojbgckabifnjaa
open Go.RowKit

section
variable {P : Program} {ops : Array Oper} {Q : Exit → Act → World → Prop}
theorem tail_ops : ∀ (m r : Nat) (a : Act) (w : World), wpTail P ops Q r m a w → wpOps P ops Q (List.range' r m) a w := by
  intro m
  induction m with
  | zero => intro r a w h; exact h
  | succ m ih =>
    intro r a w h
    rw [List.range'_succ, wpOps_cons]
    exact wpOp_mono (fun a w h => ih _ a w h) h
def chkM (n : Nat) (ms : List Nat) : Bool := (List.range n).all fun i => (List.range n).all fun p => !(mk ms i).testBit p || decide (p ≤ i)

theorem rel_text {ms : List Nat} {Rs : List ((Nat → Value) → World → Prop)} {w0 : World} {a0 : Act} {r : Nat} (os : List (Oper × List Nat)) (hr : os.length = r) (hrn : r ≤ ops.size) (hos : ∀ t (h : t < os.length), ops[t]? = some os[t].1)
    (hD : ∀ t (h : t < os.length), ∀ d ∈ os[t].2, (mk ms t).testBit d = true ∧ d ≠ t ∧ d < ops.size) (hM : chkM ops.size ms = true)
    (hob : ∀ val, RelO P ops ms Rs w0 val 0 os a0)
    (hend : ∀ val W, Frm (fun _ => False) w0 W → (∀ i, i < r → Fact ms Rs i val W) → wpTail P ops Q r (ops.size - r) (aL ops val a0 (List.range r)) W) :
    ∀ (n t : Nat) (val : Nat → Value) (W : World), t + n = r → Frm (fun _ => False) w0 W → (∀ i, i < t → Fact ms Rs i val W) → wpOps P ops Q (List.range' t (ops.size - t)) (aL ops val a0 (List.range t)) W := by
  have hM' : ∀ i p, i < ops.size → p < ops.size → (mk ms i).testBit p = true → p ≤ i := fun i p hi hp ht => by
    simp only [chkM, List.all_eq_true, List.mem_range] at hM
    have := hM i hi p hp
    rw [ht] at this
    simpa using this
  intro n
  induction n with
  | zero =>
    intro t val W ht hW hF
    obtain rfl : t = r := by omega
    exact tail_ops _ _ _ _ (hend val W hW hF)
  | succ n ih =>
    intro t val W ht hW hF
    have hts : t < ops.size := by omega
    rw [show ops.size - t = (ops.size - (t + 1)) + 1 by omega, List.range'_succ, wpOps_cons]
    have hok := relO_at os 0 a0 (hob val) (fun t h => by rw [Nat.zero_add]; exact hos t h) t (by omega) W hW (factsD_of _ fun d hd => by
      obtain ⟨h1, h2, h3⟩ := hD t (by omega) d hd
      have := hM' t d hts h3 h1
      exact hF d (by omega))
    rw [Nat.zero_add, ← List.range_eq_range'] at hok
    have ho := hos t (by omega)
    refine hok.wpOp ho fun u W' hK => ?_
    obtain ⟨g, hR⟩ := hK
    have e0 : dstOf ops t = (os[t]'(by omega)).1.dst := by simp [dstOf, ho]
    have ea : (aL ops val a0 (List.range t)).put (os[t]'(by omega)).1.dst u = aL ops (updV val t u) a0 (List.range (t + 1)) := by
      rw [List.range_succ, aL_append]
      have e1 : aL ops (updV val t u) a0 (List.range t) = aL ops val a0 (List.range t) := aL_congr _ a0 fun i hi => by
        have := List.mem_range.1 hi
        unfold updV; rw [if_neg (by omega)]
      rw [e1]
      show _ = (aL ops val a0 (List.range t)).put (dstOf ops t) (updV val t u t)
      rw [e0]
      simp [updV]
    rw [ea]
    refine ih (t + 1) _ W' (by omega) (hW.trans g) fun i hi => ?_
    rcases Nat.lt_or_ge i t with h | h
    · intro W'' g'
      have h1 := hF i h W'' (g.trans g')
      have hbit : (mk ms i).testBit t = false := by
        cases hq : (mk ms i).testBit t with
        | false => rfl
        | true => have := hM' i t (by omega) hts hq; omega
      rw [rs_upd val u hbit]
      exact h1
    · obtain rfl : i = t := by omega
      exact hR

theorem ops_textR {a : Act} {w : World} (r m : Nat) (Ds : List (List Nat)) (ms : List Nat) (Rs : List ((Nat → Value) → World → Prop)) {os' os ts : List Oper} (hos' : ops = os'.toArray) (hsp : splitN r os' = some (os, ts)) (hsz : ops.size = r + m)
    (hDl : Ds.length = r) (hDs : chkD ops.size ms 0 Ds = true) (hM : chkM ops.size ms = true)
    (hob : ∀ val, RelO P ops ms Rs w val 0 (os.zip Ds) a)
    (hend : ∀ val W, Frm (fun _ => False) w W → FactsD ms Rs val W (List.range r) → wpTail P ops Q r m (aO val a os 0) W) : wpOps P ops Q (List.range ops.size) a w := by
  obtain ⟨h1, h2⟩ := splitN_eq _ _ _ _ hsp
  have hopt : ∀ t (h : t < os.length), ops[t]? = some os[t] := fun t h => by
    subst hos'
    simp [h1, List.getElem?_append, h]
  have hlen : (os.zip Ds).length = r := by simp [h2, hDl]
  have hall := rel_text (Q := Q) (ms := ms) (Rs := Rs) (w0 := w) (a0 := a) (r := r) (os.zip Ds) hlen (by omega) (fun t h => by
      simp only [List.getElem_zip]
      exact hopt t (by omega))
    (fun t h d hd => by
      simp only [List.getElem_zip] at hd
      have := chkD_at Ds 0 hDs t (by omega) d hd
      rwa [Nat.zero_add] at this) hM hob
    (fun val W hW hF => by
      have e1 : List.range r = List.range' 0 os.length := by rw [h2, List.range_eq_range']
      rw [e1, aL_aO val os 0 a (fun t h => by rw [Nat.zero_add]; exact hopt t h)]
      have e2 : ops.size - r = m := by omega
      rw [e2]
      exact hend val W hW (factsD_of _ fun d hd => hF d (List.mem_range.1 hd)))
    r 0 (fun _ => undef) w (by omega) (Frm.refl _ _) (fun i hi => by omega)
  rw [List.range_eq_range']
  exact hall
theorem wp_region_textR {id : Nat} {a : Act} {w : World} (r m : Nat) (Ds : List (List Nat)) (ms : List Nat) (Rs : List ((Nat → Value) → World → Prop)) {os' os ts : List Oper} (hos' : ops = os'.toArray) (hsp : splitN r os' = some (os, ts)) (hsz : ops.size = r + m)
    (hDl : Ds.length = r) (hDs : chkD ops.size ms 0 Ds = true) (hM : chkM ops.size ms = true)
    (hob : ∀ val, RelO P ops ms Rs w val 0 (os.zip Ds) a)
    (hend : ∀ val W, Frm (fun _ => False) w W → FactsD ms Rs val W (List.range r) → wpTail P ops Q r m (aO val a os 0) W) : (Code.region id ops false).wp P Q a w :=
  wp_region (ops_textR r m Ds ms Rs hos' hsp hsz hDl hDs hM hob hend)
end
end Go.Proofs.Ytojbgckabifnjaa
end
section
namespace Go.Proofs.Ytojbgckabifnjaa
open Go.RowKit

/-- The first numbers of a context, the others being 0. -/
def fC (a b c : Nat) : Nat → Nat := fun k => if k = 0 then a else if k = 1 then b else if k = 2 then c else 0
theorem DL.one (w : World) (x : DotI) : DL (w.alloc (.cells #[.int .u8 x.r, .int .u32 x.n] 27)) (.slice (some ⟨w.heap.size, 0, none⟩) 1 1) [x] :=
  Sl.ofRow (Row.made w 27 2 1 1 (dotc x) (dotc x).toArray rfl (Nat.le_refl _) (by decide) rfl rfl)

theorem Hid.grow {P : World → Prop} {w w' : World} (H : Hid (∀ W, Frm (fun _ => False) w W → P W)) (g : Frm (fun _ => False) w w') : Hid (∀ W, Frm (fun _ => False) w' W → P W) := Lib.hid fun W g' => H.out W (g.trans g')

theorem OwnL.notDot {W : World} {v : Value} {x : SibI} {l : List SibI} {V : Nat} {p q' : Value} (h : OwnL W v (x :: l)) (hb : Blk W V 27 #[p, q']) : ∀ g, v.ownBlock = some g → ¬ g = V := by
  intro g hg e
  subst e
  rcases h.2 with ⟨rfl, _⟩ | ⟨g', cap, rfl, _, _, _, h4, _⟩
  · cases hg
  · cases hg
    have c1 := h4 2 (by simp only [List.length_cons]; omega)
    have c2 : ∀ q, Blk W q 27 #[p, q'] → W.cell? ⟨q, 2, none⟩ = none := fun q hb => by
      simp only [Blk] at hb
      simp only [World.cell?, hb]
      rfl
    rw [c2 _ hb] at c1
    simp [flat, sibc] at c1
theorem SL.nil_of {W W' : World} {v : Value} (h : SL W v []) : SL W' v [] := by
  obtain ⟨h1, a, cap, rfl, h2, h3, _⟩ := h
  exact ⟨h1, a, cap, rfl, h2, h3, .inl rfl⟩

section
variable {ops : Array Oper} {Q : Exit → Act → World → Prop} {r : Nat} {a : Act} {w W : World}
/-- A register and a dot are stored in new blocks, an error is kept: the end of such a region. -/
theorem tail_reg3 {o1 o2 o3 : Oper} {x1 y1 x2 y2 x3 : Operand} {d : Tmp} (f : Nat → Nat) (v : Value) (l : List SibI) (V V2 p q : Nat) (E : Int)
    (i1 : ops[r]? = some o1) (i2 : ops[r + 1]? = some o2) (i3 : ops[r + 1 + 1]? = some o3) (g1 : o1.guard = none) (g2 : o2.guard = none) (g3 : o3.guard = none) (n1 : o1.dst = none) (n2 : o2.dst = none) (n3 : o3.dst = some d)
    (p1 : o1.op = .store 39 x1 y1) (p2 : o2.op = .store 27 x2 y2) (p3 : o3.op = .assign x3)
    (hx1 : a.eval x1 = .pointer (some ⟨V, 0, none⟩)) (hy1 : a.eval y1 = rg f v) (hx2 : a.eval x2 = .pointer (some ⟨V2, 0, none⟩)) (hy2 : a.eval y2 = .agg (dv p q)) (hx3 : a.eval x3 = .int .i64 E)
    (hF : Frm (fun _ => False) w W) (hV : w.heap.size ≤ V) (hV2 : w.heap.size ≤ V2) (o : OwnL W v l) (b1 : Blk W V 39 rz) (b2 : Blk W V2 27 dz)
    (h : ∀ w2, Frm (fun _ => False) w w2 → Hid (∀ W', Frm (fun _ => False) w2 W' → Blk W' V 39 (rgc f v) ∧ SL W' v l) → Hid (∀ W', Frm (fun _ => False) w2 W' → Blk W' V2 27 (dv p q)) → Q .normal (a.put (some d) (.int .i64 E)) w2) : wpTail Try.prog ops Q r 3 a W := by
  have hne : V ≠ V2 := by
    intro e
    subst e
    simp only [Blk] at b1 b2
    rw [b1] at b2
    cases b2
  obtain ⟨av, cv, ev, _, _⟩ := o.sl.slice
  refine row_step i1 g1 n1 39 _ _ p1 V (rgc f v) rz hx1 hy1 b1 rfl (show _ = some 9 by kernel_rfl) (by simp [Value.oneCell', ev]) fun w1 c1 f1 z1 => ?_
  refine row_step i2 g2 n2 27 _ _ p2 V2 (dv p q) dz hx2 hy2 (b2.keep f1 (Ne.symm hne)) rfl (show _ = some 2 by kernel_rfl) (by simp [Value.oneCell']) fun w2 c2 f2 z2 => ?_
  refine wpTail.assign i3 g3 n3 p3 hx3 ?_
  have s2 : SL w2 v l := by
    cases l with
    | nil => exact o.sl.nil_of
    | cons x l =>
      have s1 := o.sl.keep f1 fun g hg => o.notReg (f := fun _ => 0) (u := .slice none 0 0) b1 g (o.blkOf g hg)
      exact s1.keep f2 fun g hg => o.notDot b2 g (o.blkOf g hg)
  have b3 := c1.keep f2 hne
  refine h w2 ?_ (Lib.hid fun W' g => ⟨b3.keep g (fun h => h), s2.keepF g⟩) (Lib.hid fun W' g => c2.keep g (fun h => h))
  exact (hF.next f1 fun k hk h => by
    have h : k = V := h
    omega).next f2 fun k hk h => by
    have h : k = V2 := h
    omega
/-- The same, without a dot. -/
theorem tail_reg1 {o1 o3 : Oper} {x1 y1 x3 : Operand} {d : Tmp} (f : Nat → Nat) (v : Value) (l : List SibI) (V : Nat) (E : Int)
    (i1 : ops[r]? = some o1) (i3 : ops[r + 1]? = some o3) (g1 : o1.guard = none) (g3 : o3.guard = none) (n1 : o1.dst = none) (n3 : o3.dst = some d)
    (p1 : o1.op = .store 39 x1 y1) (p3 : o3.op = .assign x3)
    (hx1 : a.eval x1 = .pointer (some ⟨V, 0, none⟩)) (hy1 : a.eval y1 = rg f v) (hx3 : a.eval x3 = .int .i64 E)
    (hF : Frm (fun _ => False) w W) (hV : w.heap.size ≤ V) (o : OwnL W v l) (b1 : Blk W V 39 rz)
    (h : ∀ w2, Frm (fun _ => False) w w2 → Hid (∀ W', Frm (fun _ => False) w2 W' → Blk W' V 39 (rgc f v) ∧ SL W' v l) → Q .normal (a.put (some d) (.int .i64 E)) w2) : wpTail Try.prog ops Q r 2 a W := by
  obtain ⟨av, cv, ev, _, _⟩ := o.sl.slice
  refine row_step i1 g1 n1 39 _ _ p1 V (rgc f v) rz hx1 hy1 b1 rfl (show _ = some 9 by kernel_rfl) (by simp [Value.oneCell', ev]) fun w1 c1 f1 z1 => ?_
  refine wpTail.assign i3 g3 n3 p3 hx3 ?_
  have s1 : SL w1 v l := by
    cases l with
    | nil => exact o.sl.nil_of
    | cons x l => exact o.sl.keep f1 fun g hg => o.notReg (f := fun _ => 0) (u := .slice none 0 0) b1 g (o.blkOf g hg)
  refine h w1 ?_ (Lib.hid fun W' g => ⟨c1.keep g (fun h => h), s1.keepF g⟩)
  exact hF.next f1 fun k hk h => by
    have h : k = V := h
    omega
end
theorem SL.two (w : World) (x y : SibI) : SL (w.alloc (.cells #[.int .u8 x.r, .int .u32 x.n, .string (bs x.s), .int .u8 y.r, .int .u32 y.n, .string (bs y.s)] 76)) (.slice (some ⟨w.heap.size, 0, none⟩) 2 2) [x, y] :=
  OwnL.sl (Row.made w 76 3 2 2 (flat sibc [x, y]) (flat sibc [x, y]).toArray rfl (Nat.le_refl _) (by decide) rfl rfl)
section
variable {ops : Array Oper} {Q : Exit → Act → World → Prop} {r m : Nat} {a : Act} {w W : World}
theorem wpTail.val {o : Oper} {d : Tmp} {v : Value} (hi : ops[r]? = some o) (hg : o.guard = none) (hd : o.dst = some d) (h : (execOp a.eval o).run Try.prog W = .ok (.value v) W) (hK : wpTail Try.prog ops Q (r + 1) m (a.put (some d) v) W) : wpTail Try.prog ops Q r (m + 1) a W := by
  refine wpTail.cons hi hg fun K hK' => ?_
  unfold Oper.wp
  rw [h]
  refine hK' _ _ ?_
  rw [hd]
  exact hK
/-- Siblings are appended. -/
theorem wpTail.append {o : Oper} {d : Tmp} {x y : Operand} {l ms : List SibI} {v u : Value} (hi : ops[r]? = some o) (hg : o.guard = none) (hd : o.dst = some d)
    (ho : o.op = .call ⟨.builtin .append, #[x, y], #[37, 37]⟩) (ht : o.type = 37) (hx : a.eval x = v) (hy : a.eval y = u) (h : OwnL W v l) (hs : SL W u ms) (hb : l.length + ms.length ≤ 1000000)
    (hK : ∀ v' W', OwnL W' v' (l ++ ms) → W.grownBy W' v.ownBlock → (∀ g, v'.ownBlock = some g → v.ownBlock = some g ∨ W.heap.size ≤ g) → wpTail Try.prog ops Q (r + 1) m (a.put (some d) v') W') : wpTail Try.prog ops Q r (m + 1) a W := by
  obtain ⟨v', W', hrun, h1, h2, h3⟩ := append_sibs W v u l ms h hs hb
  refine wpTail.cons hi hg fun K hK' => ?_
  refine Lib.wp_append_run W x y _ _ ho v u hx hy v' W' (by rw [ht]; exact hrun) ?_
  rw [hd]
  exact hK' _ _ (hK v' W' h1 h2 h3)
end
def fullL (k : Nat) : List SibI := (List.range k).map fun i => mkSib 0 (i + 1) [118]
/-- One more is appended to the register that fills. -/
structure Fill (w0 : World) (B k : Nat) (v : Value) (W : World) : Prop where
  blk : Blk W B 39 (rgc (fC 8 0 0) v)
  own : OwnL W v (fullL k)
  out : ∀ g, v.ownBlock = some g → w0.heap.size ≤ g ∧ g ≠ B
  frm : Frm (fun _ => False) w0 W
  lo : w0.heap.size ≤ B
theorem Fill.keep {w0 W W' : World} {B k : Nat} {v : Value} (h : Fill w0 B k v W) (g : Frm (fun _ => False) W W') : Fill w0 B k v W' := ⟨h.blk.keep g (fun h => h), h.own.keep g (fun _ _ h => h), h.out, h.frm.trans g, h.lo⟩
end Go.Proofs.Ytojbgckabifnjaa
end
