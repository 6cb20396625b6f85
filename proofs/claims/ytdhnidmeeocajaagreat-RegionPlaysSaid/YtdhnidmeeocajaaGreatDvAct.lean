/- What settle does: a block's firm bytes are others now. No condition. -/
import Derived.Test.YtdhnidmeeocajaaGreatDvD
import Derived.Test.YtdhnidmeeocajaaGreatCanonT
import Derived.OwnWalk
import Derived.Deep.DeepCutAuto
import Derived.Deep.RegionHeld3
import Derived.Shelf.RegionOpen
section
namespace Go.Proofs.YtdhnidmeeocajaaGreat
open Go.RowKit

theorem part_u8 (l : List UInt8) (i : Nat) (hi : i < l.length) (w : World) : (part 5 (u8s l).toArray i).run Tryz.prog w = .ok (.int .u8 l[i].toNat) w := by
  have a3 := Tryz.isAgg5
  have h : (u8s l).toArray[i]? = some (.int .u8 l[i].toNat) := by simpa using u8s_get l i hi
  unfold part
  go_simp
theorem drop_eq_iff (a b : List UInt8) (i : Nat) (ha : i < a.length) (hb : i < b.length) : (a.drop i = b.drop i) ↔ (a[i] = b[i] ∧ a.drop (i + 1) = b.drop (i + 1)) := by
  rw [List.drop_eq_getElem_cons ha, List.drop_eq_getElem_cons hb, List.cons.injEq]
theorem eq_loop (d : Nat) (hd : ∀ (x y : Int) (w : World), (Op.equalIn d 5 (.int .u8 x) (.int .u8 y)).run Tryz.prog w = .ok (x == y) w) (a b : List UInt8) (ha : a.length = 64) (hb : b.length = 64) : ∀ (m i : Nat) (w : World), i + m = 64 →
    Sem.run Tryz.prog (forIn (List.range' i m) ((none, ()) : Option Bool × Unit) fun i (_ : Option Bool × Unit) => do
      let x ← part 5 (u8s a).toArray (i * 1)
      let y ← part 5 (u8s b).toArray (i * 1)
      let z ← Op.equalIn d 5 x y
      if (!z) = true then pure (ForInStep.done (some false, ())) else pure (ForInStep.yield (none, ()))) w = .ok (if a.drop i = b.drop i then none else some false, ()) w := by
  intro m
  induction m with
  | zero =>
    intro i w h
    rw [List.range'_zero, List.forIn_nil, if_pos (by rw [List.drop_of_length_le (by omega), List.drop_of_length_le (by omega)])]
    rfl
  | succ m ih =>
    intro i w h
    have hia : i < a.length := by omega
    have hib : i < b.length := by omega
    rw [List.range'_succ, List.forIn_cons]
    simp only [Sem.run_bind, Nat.mul_one, part_u8 a i hia, part_u8 b i hib, Result.andThen_ok]
    simp only [hd, Result.andThen_ok]
    by_cases e : a[i] = b[i]
    · have hz : ((a[i].toNat : Int) == (b[i].toNat : Int)) = true := by rw [e]; simp
      rw [hz]
      simp only [Bool.not_true, Bool.false_eq_true, if_false, Sem.run_pure, Result.andThen_ok]
      have := ih (i + 1) w (by omega)
      simp only [Nat.mul_one] at this
      rw [this]
      have hdr := drop_eq_iff a b i hia hib
      congr 2
      by_cases e2 : a.drop (i + 1) = b.drop (i + 1)
      · rw [if_pos e2, if_pos (hdr.2 ⟨e, e2⟩)]
      · rw [if_neg e2, if_neg (fun h => e2 (hdr.1 h).2)]
    · have hz : ((a[i].toNat : Int) == (b[i].toNat : Int)) = false := by
        rw [beq_eq_false_iff_ne]
        intro h
        exact e (UInt8.toNat_inj.1 (by omega))
      rw [hz]
      simp only [Bool.not_false, if_true, Sem.run_pure, Result.andThen_ok]
      rw [if_neg (fun h => e ((drop_eq_iff a b i hia hib).1 h).1)]
theorem run_eq_blk (a b : List UInt8) (ha : a.length = 64) (hb : b.length = 64) (w : World) : (Op.equalIn 10000 112 (bkv a) (bkv b)).run Tryz.prog w = .ok (decide (a = b)) w := by
  have z3 := Tryz.sizeOf5
  rw [show (10000 : Nat) = 9999 + 1 from rfl, Op.equalIn]
  simp only [Sem.run_bind, run_underlying Tryz.underlying112, Result.andThen_ok]
  simp only [Std.Legacy.Range.forIn_eq_forIn_range', Std.Legacy.Range.size, Nat.sub_zero, Nat.add_sub_cancel, Nat.div_one]
  rw [z3]
  simp only [Result.andThen_ok]
  have hu : Tryz.prog.underlying 5 = some (.int .u8) := Tryz.underlying5
  have h := eq_loop 9999 (fun x y w => by rw [show (9999 : Nat) = 9998 + 1 from rfl]; exact run_equalIn_int w 9998 5 .u8 .u8 x y hu) a b ha hb 64 0 w rfl
  rw [h, List.drop_zero, List.drop_zero]
  by_cases e : a = b
  · simp only [e, if_true, Result.andThen_ok, Sem.run_pure, decide_true]
  · simp only [e, if_false, Result.andThen_ok, Sem.run_pure, decide_false]

set_option maxRecDepth 100000 in
theorem run_eq_zero (a : List UInt8) (ha : a.length = 64) (w : World) : (Op.equalIn 10000 112 (bkv a) (.agg #[.int .u8 0, .int .u8 0, .int .u8 0, .int .u8 0, .int .u8 0, .int .u8 0, .int .u8 0, .int .u8 0, .int .u8 0, .int .u8 0, .int .u8 0, .int .u8 0, .int .u8 0, .int .u8 0, .int .u8 0, .int .u8 0, .int .u8 0, .int .u8 0, .int .u8 0, .int .u8 0, .int .u8 0, .int .u8 0, .int .u8 0, .int .u8 0, .int .u8 0, .int .u8 0, .int .u8 0, .int .u8 0, .int .u8 0, .int .u8 0, .int .u8 0, .int .u8 0, .int .u8 0, .int .u8 0, .int .u8 0, .int .u8 0, .int .u8 0, .int .u8 0, .int .u8 0, .int .u8 0, .int .u8 0, .int .u8 0, .int .u8 0, .int .u8 0, .int .u8 0, .int .u8 0, .int .u8 0, .int .u8 0, .int .u8 0, .int .u8 0, .int .u8 0, .int .u8 0, .int .u8 0, .int .u8 0, .int .u8 0, .int .u8 0, .int .u8 0, .int .u8 0, .int .u8 0, .int .u8 0, .int .u8 0, .int .u8 0, .int .u8 0, .int .u8 0])).run Tryz.prog w = .ok (decide (a = zb)) w := run_eq_blk a zb ha zb_len w
theorem blk_load {w : World} {b : Nat} {l : List UInt8} (h : Blk w b 112 (u8s l).toArray) (hl : l.length = 64) : (Instr.loadAt 112 (.pointer (some ⟨b, 0, none⟩))).run Tryz.prog w = .ok (bkv l) w := by
  refine run_loadAt_mid w b 0 112 (u8s l) _ ?_ Tryz.underlying112 rfl (by rw [u8s_length, hl]; kernel_rfl)
  intro j u hj
  rw [Nat.zero_add]
  exact h.cell j (by simpa using hj)

section
variable {ops : Array Oper} {rest : List Oper} {o : Oper} {a : Act} {w : World} {Q : Exit → Act → World → Prop}
/-- A block is loaded. -/
theorem wpl_load_blk (hg : o.guard = none) (x : Operand) (ho : o.op = .load 112 x) (b : Nat) (l : List UInt8) (hx : a.eval x = .pointer (some ⟨b, 0, none⟩)) (h : Blk w b 112 (u8s l).toArray) (hl : l.length = 64)
    (hK : wpList Tryz.prog ops Q rest (a.put o.dst (bkv l)) w) : wpList Tryz.prog ops Q (o :: rest) a w := by
  have hr := blk_load h hl
  refine wpList_plain hg fun K' hK' => ?_
  unfold Oper.wp
  simp [execOp, ho, hx, hr, Result.andThen]
  exact hK' _ _ hK
/-- A block is dropped from a map. -/
theorem wpl_delete_blk (hg : o.guard = none) (m x : Operand) (hop : o.op = Op.call { callee := Callee.builtin Builtin.delete, args := #[m, x], argTypes := #[73, 3] }) (b n k : Nat) (G : Nat → Option (List UInt8))
    (hm : a.eval m = .map (some b)) (hx : a.eval x = .int .i64 (k : Int)) (h : MapB w b n G) (hk : k ≤ 9223372036854775807)
    (hK : ∀ w', MapB w' b n (fun j => if j = k then none else G j) → Frm (· = b) w w' → w'.heap.size = w.heap.size → wpList Tryz.prog ops Q rest (a.put o.dst (.tuple #[])) w') : wpList Tryz.prog ops Q (o :: rest) a w := by
  refine wpList_plain hg fun K' hK' => ?_
  obtain ⟨w', hrun, r1, r2, r3⟩ := h.drop k hk o.type
  unfold Oper.wp
  simp [execOp, hop, resolve, invoke, builtin, hm, hx, hrun, Result.andThen]
  exact hK' _ _ (hK w' r1 r2 r3)
/-- A map is cleared. -/
theorem wpl_clear_blk (hg : o.guard = none) (m : Operand) (hop : o.op = Op.call { callee := Callee.builtin Builtin.clear, args := #[m], argTypes := #[73] }) (b n : Nat) (G : Nat → Option (List UInt8))
    (hm : a.eval m = .map (some b)) (h : MapB w b n G)
    (hK : ∀ w', MapB w' b n (fun _ => none) → Frm (· = b) w w' → w'.heap.size = w.heap.size → wpList Tryz.prog ops Q rest (a.put o.dst (.tuple #[])) w') : wpList Tryz.prog ops Q (o :: rest) a w := by
  refine wpList_plain hg fun K' hK' => ?_
  obtain ⟨w', hrun, r1, r2, r3⟩ := h.clear o.type
  unfold Oper.wp
  simp [execOp, hop, resolve, invoke, builtin, hm, hrun, Result.andThen]
  exact hK' _ _ (hK w' r1 r2 r3)
/-- How many blocks a map has. -/
theorem wpl_len_blk (hg : o.guard = none) (m : Operand) (hop : o.op = Op.call { callee := Callee.builtin Builtin.len, args := #[m], argTypes := #[73] }) (b n : Nat) (G : Nat → Option (List UInt8))
    (hm : a.eval m = .map (some b)) (h : MapB w b n G)
    (hK : wpList Tryz.prog ops Q rest (a.put o.dst (.int .i64 (((List.range n).filter fun k => (G k).isSome).length : Nat))) w) : wpList Tryz.prog ops Q (o :: rest) a w := by
  refine wpList_plain hg fun K' hK' => ?_
  have hrun := h.len o.type
  unfold Oper.wp
  simp [execOp, hop, resolve, invoke, builtin, hm, hrun, Result.andThen]
  exact hK' _ _ hK
/-- A block is laid into a map. -/
theorem MapB.wpOp_store {K : Act → World → Prop} {i : Nat} (hi : ops[i]? = some o) (hg : o.guard = none) (hd : o.dst = none) (m x y : Operand) (ho : o.op = .mapUpdate 73 m x y) (b n k : Nat) (l : List UInt8) (G : Nat → Option (List UInt8))
    (hm : a.eval m = .map (some b)) (hx : a.eval x = .int .i64 (k : Int)) (hy : a.eval y = bkv l) (h : MapB w b n G) (hn : n ≤ 4096) (hk : k < n) (hl : l.length = 64)
    (hK : ∀ w', MapB w' b n (fun j => if j = k then some l else G j) → Frm (· = b) w w' → w'.heap.size = w.heap.size → K a w') : wpOp Tryz.prog ops Q i K a w := by
  obtain ⟨w', hrun, r1, r2, r3⟩ := h.store hn k hk l hl
  unfold wpOp
  simp only [hi]
  rw [if_pos (by unfold Region.wanted; rw [hg])]
  refine .inl ?_
  unfold Oper.wp
  simp only [execOp, ho, hm, hx, hy]
  go_simp
  exact hK w' r1 r2 r3
end
theorem DV.firmG_put (D : DV) (k : Nat) (l : List UInt8) : (⟨D.n, fun j => if j = k then l else D.F j, D.X⟩ : DV).firmG = fun j => if j = k then (if l = zb then none else some l) else D.firmG j := by
  funext j
  unfold DV.firmG
  dsimp only
  by_cases e : j = k
  · simp only [e, if_true]
  · simp only [e, if_false]
theorem DevM.settled {w w' : World} {b f x : Nat} {D : DV} (h : DevM w b f x D) (k : Nat) (hk : k < D.n) (l : List UInt8) (hl : l.length = 64) (hG : MapB w' f D.n (fun j => if j = k then (if l = zb then none else some l) else D.firmG j)) (g : Frm (· = f) w w') :
    DevM w' b f x ⟨D.n, fun j => if j = k then l else D.F j, D.X⟩ := by
  refine ⟨h.blk.keep g h.bf, ?_, h.fresh.keep g (Ne.symm h.fx), h.bf, h.bx, h.fx, ⟨h.ok.lo, h.ok.hi, fun j => ?_, fun j hj => ?_, h.ok.xl⟩⟩
  · rw [DV.firmG_put]
    exact hG
  · dsimp only
    split
    · exact hl
    · exact h.ok.fl j
  · dsimp only at hj ⊢
    rw [if_neg (by omega)]
    exact h.ok.fz j hj
set_option maxRecDepth 100000 in
set_option maxHeartbeats 4000000 in
theorem settle_any (b f x k : Nat) (l : List UInt8) (D : DV) (w : World) (h : DevM w b f x D) (hk : k < D.n) (hl : l.length = 64) :
    Calls Tryz.prog 86 #[.pointer (some ⟨b, 0, none⟩), .int .i64 (k : Int), bkv l] w fun e w' => e = .returned (.tuple #[]) ∧ DevM w' b f x ⟨D.n, fun j => if j = k then l else D.F j, D.X⟩ ∧ Frm (· = f) w w' := by
  have hb0 := h.lt.1
  have hi := h.ok.hi
  have bl := Blk.alloc w 112 (u8s l).toArray
  have g0 : Frm (fun _ => False) w (w.alloc (.cells (u8s l).toArray 112)) := (Frm.refl _ w).alloc _
  have heq := run_eq_zero l hl
  have h1 := h.keepF g0
  have c2 := h1.fc
  have H1 := Lib.hid h1
  clear h h1
  by_cases e : l = zb
  · rw [decide_eq_true e] at heq
    have He := Lib.hid e
    clear e
    go_enter Tryz.func86, Tryz.ntmps86
    go_wp2_with (first
      | (refine wpl_load_blk rfl (.tmp 5) rfl _ l rfl bl hl ?_)
      | (at_delete; refine wpl_delete_blk rfl _ _ rfl f D.n k D.firmG rfl rfl H1.out.firm (by omega) ?_; intro w1 hm1 hg1 hs1)
      | fail)
    refine bodyPost_ret (results_none rfl _ _ _) rfl ?_
    refine ⟨rfl, H1.out.settled k hk l hl (hm1.congr fun j => ?_) hg1, (g0.mono fun _ _ h => h.elim).trans hg1⟩
    rw [if_pos He.out]
  · rw [decide_eq_false e] at heq
    have He := Lib.hid e
    clear e
    go_enter Tryz.func86, Tryz.ntmps86
    go_upto_region 3 with (first
      | (refine wpl_load_blk rfl (.tmp 5) rfl _ l rfl bl hl ?_)
      | fail)
    refine wp_region_root (fun w' => w'.cell? ⟨b, 2, none⟩ = some (.map (some f)) ∧ (Instr.loadAt 112 (.pointer (some ⟨w.heap.size, 0, none⟩))).run Tryz.prog w' = .ok (bkv l) w' ∧ Frm (fun _ => False) w w' ∧ DevM w' b f x D) (by kernel_rfl) rfl rfl (by kernel_rfl) (by kernel_rfl) (by kernel_rfl) (⟨c2, blk_load bl.drew hl, g0.drew, H1.out.keepF (Frm.refl _ _).drew⟩) ?_
    repeat' first
      | (refine CanonL.skip (by rfl) ?_; (try simp only [Act.put, List.setIfInBounds_toArray, List.set_cons_zero, List.set_cons_succ]))
      | (refine CanonL.load (by rfl) _ (by rfl) (by rfl) (fun w hs => hs.2.1) ?_; (try simp only [Act.put, List.setIfInBounds_toArray, List.set_cons_zero, List.set_cons_succ]))
      | (refine CanonL.val (v := ?_) (by rfl) ?_ ?_; rotate_left 1; (focus (intro w hSw; (try dsimp only at hSw); go_simp; (try (with_reducible rfl)); done)); (try simp only [Act.put, List.setIfInBounds_toArray, List.set_cons_zero, List.set_cons_succ]))
    refine CanonL.done ?_
    intro w9 hS9
    obtain ⟨_, _, g2, h2⟩ := hS9
    refine MapB.wpOp_store rfl rfl rfl _ _ _ rfl f D.n k l D.firmG rfl rfl rfl h2.firm (by omega) hk hl ?_
    intro w3 hm3 hg3 hs3
    go_end0
    refine ⟨rfl, h2.settled k hk l hl (hm3.congr fun j => ?_) hg3, (g2.mono fun _ _ h => h.elim).trans hg3⟩
    rw [if_neg He.out]
end Go.Proofs.YtdhnidmeeocajaaGreat
end
section
namespace Go.Proofs.YtdhnidmeeocajaaGreat
open Go.RowKit
/-- A slice of ints. -/
def zcs (l : List Int) : List Value := l.map (Value.int .i64)
theorem zcs_get (l : List Int) (k : Nat) (h : k < l.length) : (zcs l)[k]? = some (.int .i64 l[k]) := by simp [zcs, h]
def Zs (w : World) (v : Value) (l : List Int) : Prop := Sl w 1 v l.length (zcs l)
theorem Zs.keepF {w w' : World} {v : Value} {l : List Int} (h : Zs w v l) (hf : Frm (fun _ => False) w w') : Zs w' v l := Sl.keepF h hf
theorem Zs.at {w : World} {a : Option Addr} {n cap : Nat} {l : List Int} (h : Zs w (.slice a n cap) l) (k : Nat) (hk : k < l.length) : ∃ g off, a = some ⟨g, off, none⟩ ∧ g < w.heap.size ∧ w.cell? ⟨g, off + k, none⟩ = some (.int .i64 l[k]) := by
  obtain ⟨a', cap', e, _⟩ := Sl.slice h
  cases e
  obtain ⟨g, off, e1, e2, e3⟩ := Sl.at h k (by omega)
  exact ⟨g, off, e1, e2, by rw [e3, zcs_get l k hk]⟩
theorem Zs.slice {w : World} {v : Value} {l : List Int} (h : Zs w v l) : ∃ a cap, v = .slice a l.length cap ∧ l.length ≤ cap ∧ cap ≤ maxLen := Sl.slice h
/-- A number of 64 bits. -/
def Z64 (q : Int) : Prop := -9223372036854775808 ≤ q ∧ q ≤ 9223372036854775807

/-- An act: what, at which block, which text, which choices. -/
structure ActD where
  k : Nat
  q : Int
  s : List UInt8
  cs : List Int
structure ActD.fits (x : ActD) : Prop where
  k : x.k < 256
  q : Z64 x.q
  s : x.s.length ≤ 9223372036854775807
  cs : ∀ z ∈ x.cs, Z64 z
/-- An act at address p. -/
structure ActAt (w : World) (b off : Nat) (x : ActD) (c : Value) : Prop where
  lt : b < w.heap.size
  c0 : w.cell? ⟨b, off, none⟩ = some (.int .u8 (x.k : Nat))
  c1 : w.cell? ⟨b, off + 1, none⟩ = some (.int .i64 x.q)
  c2 : w.cell? ⟨b, off + 2, none⟩ = some (.string (bs x.s))
  c3 : w.cell? ⟨b, off + 3, none⟩ = some c
  zs : Zs w c x.cs
  fits : x.fits
def Acs (w : World) (v : Value) (L : List ActD) : Prop :=
  ∃ a cap, v = .slice a L.length cap ∧ L.length ≤ cap ∧ cap ≤ maxLen ∧ ∀ i (h : i < L.length), ∃ b off c, a = some ⟨b, off, none⟩ ∧ ActAt w b (off + i * 4) L[i] c
theorem ActAt.keepF {w w' : World} {b off : Nat} {x : ActD} {c : Value} (h : ActAt w b off x c) (hf : Frm (fun _ => False) w w') : ActAt w' b off x c := by
  have e := hf.block b h.lt (fun h => h)
  have ec : ∀ j, w'.cell? ⟨b, j, none⟩ = w.cell? ⟨b, j, none⟩ := fun j => World.cell?_of_block (a := ⟨b, j, none⟩) e
  exact ⟨Nat.lt_of_lt_of_le h.lt hf.size, by rw [ec]; exact h.c0, by rw [ec]; exact h.c1, by rw [ec]; exact h.c2, by rw [ec]; exact h.c3, h.zs.keepF hf, h.fits⟩
theorem Acs.keepF {w w' : World} {v : Value} {L : List ActD} (h : Acs w v L) (hf : Frm (fun _ => False) w w') : Acs w' v L := by
  obtain ⟨a, cap, hv, h1, h2, h3⟩ := h
  exact ⟨a, cap, hv, h1, h2, fun i hi => by
    obtain ⟨b, off, c, ha, r⟩ := h3 i hi
    exact ⟨b, off, c, ha, r.keepF hf⟩⟩

end Go.Proofs.YtdhnidmeeocajaaGreat
end
