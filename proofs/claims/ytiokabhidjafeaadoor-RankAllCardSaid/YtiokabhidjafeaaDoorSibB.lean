/- What the function gives that All of a register hands out: each sibling's dot and value, in order. No condition. -/
import Derived.Test.YtiokabhidjafeaaDoorCodecV
namespace Go.Proofs.YtiokabhidjafeaaDoor
open Go.RowKit Go.Shelf
attribute [local go_sem] Oper.semAt_some

theorem yield_eql (w : World) (f : Fn) (a c : Array Value) : (binOp .eql 123 (.func f a c) .nilFunc).run Tryd.prog w = .ok (.bool false) w := by
  have h : ∀ d : Nat, (Op.equalIn (d + 1) 123 (.func f a c) .nilFunc).run Tryd.prog w = .ok false w := fun d => by
    simp [Op.equalIn, run_underlying Tryd.underlying123]
  simp only [binOp]
  simp [Op.equal, Op.maxDepth, h 9999]
theorem frm_of_below {w w' : World} (h : Below w.heap.size w w') : Frm (fun _ => False) w w' := ⟨h.os, h.tape, h.output, h.size, fun k hk _ => h.block k hk⟩
theorem OwnL.isCells {w : World} {v : Value} {l : List SibI} (h : OwnL w v l) : ∀ k o, v.ownBlock = some k → w.heap[k]? = some o → o.isCells = true := fun k o hk ho => by
  obtain ⟨o', ho', hc⟩ := Row.isC h k hk
  rw [ho'] at ho; cases ho; exact hc

/-- A load whose run is known. -/
theorem wplIn_load {F : Fence} {n : Nat} {P : Program} {w : World} {ops : Array Oper} {rest : List Oper} {o : Oper} {a : Act} {Q : Exit → Act → World → Prop} (hg : o.guard = none) (t : TypeId) (x : Operand) (ho : o.op = .load t x) (p u : Value)
    (hx : a.eval x = p) (hr : (Instr.loadAt t p).run P w = .ok u w) (h : wpListIn F n P ops Q rest (a.put o.dst u) w) : wpListIn F n P ops Q (o :: rest) a w := by
  refine wpListIn_plain hg fun K' hK' => ?_
  unfold Oper.wpIn
  refine ⟨by simp [Oper.about, ho], ?_⟩
  rw [Oper.semAt_plain F _ _ (by rw [ho]; intro c hc'; cases hc')]
  simp [execOp, ho, hx, hr, Result.andThen]
  exact hK' _ _ h
/-- An append whose run is known. -/
theorem wplIn_append {F : Fence} {n : Nat} {P : Program} {w : World} {ops : Array Oper} {rest : List Oper} {o : Oper} {a : Act} {Q : Exit → Act → World → Prop} (hg : o.guard = none) (s x : Operand) (t tn : TypeId)
    (ho : o.op = .call { callee := .builtin .append, args := #[s, x], argTypes := #[t, tn] }) (vs vx : Value) (hs : a.eval s = vs) (hx : a.eval x = vx) (v' : Value) (w' : World) (hr : (Builtin.append_ #[t, tn] o.type #[vs, vx]).run P w = .ok v' w')
    (h : wpListIn F n P ops Q rest (a.put o.dst v') w') : wpListIn F n P ops Q (o :: rest) a w := by
  refine wpListIn_plain hg fun K' hK' => ?_
  unfold Oper.wpIn
  refine ⟨by simp [Oper.about, ho, resolve, Target.leads, Sem.run_pure], ?_⟩
  rw [Oper.semAt_plain F _ _ (by rw [ho]; intro c hc'; cases hc')]
  simp [execOp, ho, resolve, invoke, builtin, hs, hx, hr, Result.andThen]
  exact hK' _ _ h

/-- What a round leaves as it lay. -/
def keptS (K : Nat → Prop) (W W' : World) : Prop := ∀ k, K k → W'.heap[k]? = W.heap[k]?
theorem keptS.trans {K : Nat → Prop} {A B C : World} (h : keptS K A B) (k : keptS K B C) : keptS K A C := fun q hq => (k q hq).trans (h q hq)
theorem keptS.put {K : Nat → Prop} {w : World} (hn : ∀ k, K k → k < w.heap.size) (W : World) (l : Nat) (o o' : Obj) (hl : w.heap.size ≤ l) (_ : W.heap[l]? = some o) (_ : o.isCells = false) (_ : o.isWalk = false) : keptS K W (W.putObj l o') :=
  fun q hq => World.putObj_heap_other (by have := hn q hq; omega)
/-- What is handed to a round. -/
abbrev sEnc (x : SibI) : Array Value := #[.agg (dv x.r x.n), .string (bs x.s)]
theorem SL.keepK {K : Nat → Prop} {w w' : World} {v : Value} {l : List SibI} (h : SL w v l) (hk : keptS K w w') (hv : ∀ g, blkOf v = some g → K g) : SL w' v l := by
  obtain ⟨h1, a, cap, rfl, h2, h3, h4⟩ := h
  refine ⟨h1, a, cap, rfl, h2, h3, ?_⟩
  rcases h4 with h4 | ⟨g, off, rfl, h5, h6⟩
  · exact .inl h4
  · have e := hk g (hv g rfl)
    refine .inr ⟨g, off, rfl, ?_, fun j hj => (World.cell?_of_block (a := ⟨g, off + j, none⟩) e).trans (h6 j hj)⟩
    obtain ⟨o, ho⟩ : ∃ o, w.heap[g]? = some o := ⟨_, Array.getElem?_eq_getElem h5⟩
    rw [ho] at e
    exact (Array.getElem?_eq_some_iff.1 e).1

set_option maxRecDepth 100000 in
set_option maxHeartbeats 2000000 in
theorem sall_stops (B : Nat) (v : Value) (l : List SibI) (K : Nat → Prop) (w : World) (hB : Blk w B 25 #[v]) (hs : SL w v l) (hKlt : ∀ q, K q → q < w.heap.size) (hKv : ∀ g, blkOf v = some g → K g) :
    SeqStopsK Fence.wide 8 Tryd.prog 60 #[.pointer (some ⟨B, 0, none⟩)] sEnc (keptS K) (fun xs => xs = l) (fun pre => pre <+: l ∧ pre ≠ []) l.length w := fun l0 J Jx W hW hJ hJx hY h0 => by
  have hBW : Blk W B 25 #[v] := (hW.block B hB.lt).trans hB
  have hsW : SL W v l := hs.keepF (frm_of_below hW)
  obtain ⟨a, cap, rfl, hc1, hc2⟩ := hsW.slice
  unfold maxLen at hc2
  have c0 := hBW.cell 0 rfl
  have hfe := yield_eql
  refine callsIn_of_wp Tryd.func60 rfl trivial ?_ rfl
  simp only [Tryd.ntmps60, List.size_toArray, List.length_cons, List.length_nil, Nat.reduceAdd, Nat.reduceSub, Array.replicate_succ, Array.replicate_zero, List.push_toArray, List.append_toArray, List.nil_append, List.cons_append]
  gi_wp2
  gi_loopw [9] (fun i wr => ∃ k : Nat, i = .int .i64 k ∧ k ≤ l.length ∧ J (l.take k) wr ∧ keptS K W wr) (fun i _ => l.length - (intOf i).toNat)
  case atStart => exact ⟨0, rfl, by omega, by rw [List.take_zero]; exact h0, fun _ _ => rfl⟩
  case round =>
    obtain ⟨k, rfl, hk, hJs, hkp⟩ := hrel
    by_cases hlt : k < l.length
    · have hk0 : (0 : Int) ≤ (k : Int) := by omega
      have hki : (k : Int) < (l.length : Int) := by omega
      have hsr := hsW.keepK hkp hKv
      obtain ⟨g, off, rfl, hg, hcell⟩ := Sl.elem sibc sibc_len hsr k hlt (by omega)
      have c1 : wr.cell? ⟨g, off + k * 3, none⟩ = some (.int .u8 l[k].r) := hcell 0 (by omega)
      have c2 : wr.cell? ⟨g, off + k * 3 + 1, none⟩ = some (.int .u32 l[k].n) := by rw [Nat.add_assoc]; exact hcell 1 (by omega)
      have c3 : wr.cell? ⟨g, off + k * 3 + 2, none⟩ = some (.string (bs l[k].s)) := by rw [Nat.add_assoc]; exact hcell 2 (by omega)
      clear hcell hsr
      have hJ1 : J (l.take k) (wr.alloc (.cells #[.int .u8 l[k].r, .int .u32 l[k].n, .string (bs l[k].s)] 63)) := hJ _ _ _ none hJs (World.grownBy_alloc wr _ none) (fun _ e => by cases e)
      have hlw : ∀ q, K q → q < wr.heap.size := fun q hq => by
        have e := hkp q hq
        have hl := Nat.lt_of_lt_of_le (hKlt q hq) hW.size
        rw [Array.getElem?_eq_getElem hl] at e
        exact (Array.getElem?_eq_some_iff.1 e).1
      have hkW : ∀ q, K q → (wr.alloc (.cells #[.int .u8 l[k].r, .int .u32 l[k].n, .string (bs l[k].s)] 63)).heap[q]? = wr.heap[q]? := fun q hq => Below.heap_alloc _ _ _ (hlw q hq)
      obtain ⟨fn, tmps, assign, body, hy, hR⟩ := hY (l.take k) l[k] _ hJ1 (by simp; omega)
      dsimp only [sEnc] at hy
      have HK := Lib.hid hkW
      have HT := Lib.hid (show l.take k ++ [l[k]] = l.take (k + 1) from (List.take_succ_eq_append_getElem hlt).symm)
      clear hkW hJ1 hY hlw
      gi_wp2
      refine hR.mono ?_
      rintro e W3 (⟨rfl, hJ3, hk3⟩ | ⟨rfl, hJx3⟩)
      · gi_wp2
        go_roundw
        case rel =>
          exact ⟨k + 1, by go_num, hlt, by rw [← HT.out]; exact hJ3, fun q hq => (hk3 q hq).trans ((HK.out q hq).trans (hkp q hq))⟩
        case measure => simp [intOf]; omega
      · gi_wp2
        refine bodyPost_ret (results_none rfl _ _ _) rfl ?_
        exact ⟨⟨_, rfl⟩, .inr ⟨l.take k ++ [l[k]], ⟨by rw [HT.out]; exact List.take_prefix _ _, List.append_ne_nil_of_right_ne_nil _ (by simp)⟩, hJx3⟩⟩
    · obtain rfl : k = l.length := by omega
      rw [List.take_length] at hJs
      gi_wp2
      go_end0
      exact ⟨⟨_, rfl⟩, .inl ⟨l, rfl, hJs⟩⟩
end Go.Proofs.YtiokabhidjafeaaDoor

