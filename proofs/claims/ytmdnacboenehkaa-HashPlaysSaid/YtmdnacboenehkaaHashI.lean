/- What an index's All gives, and what Len answers. No condition. -/
import Derived.Test.YtmdnacboenehkaaHashX
import Derived.Test.YtmdnacboenehkaaRound
import Derived.RangeFuncNested
import Derived.RangeFuncBound
import Derived.RangeFuncCalls
import Derived.RangeFuncLeaves
import Derived.Shelf.Abstract
import Derived.Shelf.RegionOpen
import Derived.OwnWalkIn
import Derived.TacticsInMore
import Derived.LoopNIn
import Derived.LoopIn
import Derived.Deep.MidRow
namespace Go.Proofs.Ytmdnacboenehkaa
open Go.RowKit Go.Shelf
attribute [local go_sem] Oper.semAt_some

set_option maxHeartbeats 400000 in
theorem all_any (p : Option Addr) (w : World) :
    Calls Try.prog 15 #[.pointer p] w fun r w' => r = .returned (.func (.func 26) #[] #[.pointer (some ⟨w.heap.size, 0, none⟩)]) ∧ w.alloc (.cells #[.pointer p] 28) = w' := by
  go_enter Try.func15, Try.ntmps15
  go_wp2
  go_ret
  exact ⟨rfl, rfl⟩

theorem func_eql (w : World) (f : Fn) (a c : Array Value) : (binOp .eql 60 (.func f a c) .nilFunc).run Try.prog w = .ok (.bool false) w := by
  have h : ∀ d : Nat, (Op.equalIn (d + 1) 60 (.func f a c) .nilFunc).run Try.prog w = .ok false w := fun d => by
    simp [Op.equalIn, run_underlying Try.underlying60]
  simp only [binOp]
  simp [Op.equal, Op.maxDepth, h 9999]
theorem seq_eql (w : World) (f : Fn) (a c : Array Value) : (binOp .eql 42 (.func f a c) .nilFunc).run Try.prog w = .ok (.bool false) w := by
  have h : ∀ d : Nat, (Op.equalIn (d + 1) 42 (.func f a c) .nilFunc).run Try.prog w = .ok false w := fun d => by
    simp [Op.equalIn, run_underlying Try.underlying42]
  simp only [binOp]
  simp [Op.equal, Op.maxDepth, h 9999]
theorem seq_neq (w : World) (f : Fn) (a c : Array Value) : (binOp .neq 42 (.func f a c) .nilFunc).run Try.prog w = .ok (.bool true) w := by
  have h : ∀ d : Nat, (Op.equalIn (d + 1) 42 (.func f a c) .nilFunc).run Try.prog w = .ok false w := fun d => by
    simp [Op.equalIn, run_underlying Try.underlying42]
  simp only [binOp]
  simp [Op.equal, Op.maxDepth, h 9999]

/-- A load whose run is known. -/
theorem wpListIn_load_run {F : Fence} {n : Nat} {P : Program} {w : World} {ops : Array Oper} {rest : List Oper} {o : Oper} {a : Act} {Q : Exit → Act → World → Prop} (hg : o.guard = none) (t : TypeId) (x : Operand) (ho : o.op = .load t x) (p u : Value)
    (hx : a.eval x = p) (hr : (Instr.loadAt t p).run P w = .ok u w) (h : wpListIn F n P ops Q rest (a.put o.dst u) w) : wpListIn F n P ops Q (o :: rest) a w := by
  refine wpListIn_plain hg fun K' hK' => ?_
  unfold Oper.wpIn
  refine ⟨by simp [Oper.about, ho], ?_⟩
  rw [Oper.semAt_plain F _ _ (by rw [ho]; intro c hc'; cases hc')]
  simp [execOp, ho, hx, hr, Result.andThen]
  exact hK' _ _ h
/-- An append whose run is known. -/
theorem wpListIn_append_run {F : Fence} {n : Nat} {P : Program} {w : World} {ops : Array Oper} {rest : List Oper} {o : Oper} {a : Act} {Q : Exit → Act → World → Prop} (hg : o.guard = none) (s x : Operand) (t tn : TypeId)
    (ho : o.op = .call { callee := .builtin .append, args := #[s, x], argTypes := #[t, tn] }) (vs vx : Value) (hs : a.eval s = vs) (hx : a.eval x = vx) (v' : Value) (w' : World) (hr : (Builtin.append_ #[t, tn] o.type #[vs, vx]).run P w = .ok v' w')
    (h : wpListIn F n P ops Q rest (a.put o.dst v') w') : wpListIn F n P ops Q (o :: rest) a w := by
  refine wpListIn_plain hg fun K' hK' => ?_
  unfold Oper.wpIn
  refine ⟨by simp [Oper.about, ho, resolve, Target.leads, Sem.run_pure], ?_⟩
  rw [Oper.semAt_plain F _ _ (by rw [ho]; intro c hc'; cases hc')]
  simp [execOp, ho, resolve, invoke, builtin, hs, hx, hr, Result.andThen]
  exact hK' _ _ h

theorem Blk.keepAt {w w' : World} {b : Nat} {t : TypeId} {cs : Array Value} (h : Blk w b t cs) (e : w'.heap[b]? = w.heap[b]?) : Blk w' b t cs := e.trans h

abbrev aEnc (x : Nat × Nat) : Array Value := #[.int .u8 x.1, .int .u32 x.2]
/-- What has come behind j of the k-th bucket. -/
def come (L : Nat → List Nat) (k j : Nat) : List (Nat × Nat) := allF L k ++ ((L k).take j).map fun x => (k, x)
theorem come_zero (L : Nat → List Nat) (k : Nat) : come L k 0 = allF L k := by simp [come]
theorem come_succ (L : Nat → List Nat) (k j : Nat) (h : j < (L k).length) : come L k (j + 1) = come L k j ++ [(k, (L k)[j])] := by
  unfold come
  rw [List.take_succ_eq_append_getElem h, List.map_append, List.append_assoc]
  rfl
theorem come_all (L : Nat → List Nat) (k : Nat) : come L k (L k).length = allF L (k + 1) := by rw [allF_succ]; simp [come]
theorem allF_pre (L : Nat → List Nat) (k : Nat) : ∀ n, k ≤ n → allF L k <+: allF L n
  | 0, h => by obtain rfl : k = 0 := by omega
               exact List.prefix_refl _
  | n + 1, h => by
    by_cases e : k = n + 1
    · subst e; exact List.prefix_refl _
    · rw [allF_succ]
      exact (allF_pre L k n (by omega)).trans (List.prefix_append _ _)
theorem come_pre (L : Nat → List Nat) (k j : Nat) (hk : k < 16) : come L k j <+: allF L 16 := by
  refine List.IsPrefix.trans ?_ (allF_pre L (k + 1) 16 (by omega))
  rw [allF_succ]
  refine (List.prefix_append_right_inj _).2 ?_
  exact List.IsPrefix.map _ (List.take_prefix j (L k))
theorem come_len (L : Nat → List Nat) (k j : Nat) (hk : k < 16) (hj : j < (L k).length) : (come L k j).length < (allF L 16).length := by
  have h := (come_pre L k (j + 1) hk).length_le
  rw [come_succ L k j hj, List.length_append] at h
  simp at h
  omega
/-- A part has come. -/
def part (L : Nat → List Nat) (pre : List (Nat × Nat)) : Prop := pre <+: allF L 16 ∧ pre ≠ []
theorem Frm.ofBelow0 {w w' : World} (h : Below w.heap.size w w') : Frm (fun _ => False) w w' := ⟨h.os, h.tape, h.output, h.size, fun k hk _ => h.block k hk⟩
/-- What a round leaves as it lay. -/
def kept (n : Nat) (W W' : World) : Prop := ∀ k, k < n → W'.heap[k]? = W.heap[k]?
/-- The lists, as an array's value. -/
def rowV (v : Nat → Value) : Array Value := ((List.range 16).map v).toArray
theorem index_row (v : Nat → Value) (w : World) (k : Nat) (hk : k < 16) : (Instr.index 48 (.agg (rowV v)) (.int .i64 k)).run Try.prog w = .ok (v k) w := by
  show (Instr.index 48 (.agg #[v 0, v 1, v 2, v 3, v 4, v 5, v 6, v 7, v 8, v 9, v 10, v 11, v 12, v 13, v 14, v 15]) (.int .i64 k)).run Try.prog w = .ok (v k) w
  rcases (show k = 0 ∨ k = 1 ∨ k = 2 ∨ k = 3 ∨ k = 4 ∨ k = 5 ∨ k = 6 ∨ k = 7 ∨ k = 8 ∨ k = 9 ∨ k = 10 ∨ k = 11 ∨ k = 12 ∨ k = 13 ∨ k = 14 ∨ k = 15 by omega) with rfl | rfl | rfl | rfl | rfl | rfl | rfl | rfl | rfl | rfl | rfl | rfl | rfl | rfl | rfl | rfl
  · exact (fun W => by kernel_rfl : ∀ W, (Instr.index 48 (.agg #[v 0, v 1, v 2, v 3, v 4, v 5, v 6, v 7, v 8, v 9, v 10, v 11, v 12, v 13, v 14, v 15]) (.int .i64 0)).run Try.prog W = .ok (v 0) W) w
  · exact (fun W => by kernel_rfl : ∀ W, (Instr.index 48 (.agg #[v 0, v 1, v 2, v 3, v 4, v 5, v 6, v 7, v 8, v 9, v 10, v 11, v 12, v 13, v 14, v 15]) (.int .i64 1)).run Try.prog W = .ok (v 1) W) w
  · exact (fun W => by kernel_rfl : ∀ W, (Instr.index 48 (.agg #[v 0, v 1, v 2, v 3, v 4, v 5, v 6, v 7, v 8, v 9, v 10, v 11, v 12, v 13, v 14, v 15]) (.int .i64 2)).run Try.prog W = .ok (v 2) W) w
  · exact (fun W => by kernel_rfl : ∀ W, (Instr.index 48 (.agg #[v 0, v 1, v 2, v 3, v 4, v 5, v 6, v 7, v 8, v 9, v 10, v 11, v 12, v 13, v 14, v 15]) (.int .i64 3)).run Try.prog W = .ok (v 3) W) w
  · exact (fun W => by kernel_rfl : ∀ W, (Instr.index 48 (.agg #[v 0, v 1, v 2, v 3, v 4, v 5, v 6, v 7, v 8, v 9, v 10, v 11, v 12, v 13, v 14, v 15]) (.int .i64 4)).run Try.prog W = .ok (v 4) W) w
  · exact (fun W => by kernel_rfl : ∀ W, (Instr.index 48 (.agg #[v 0, v 1, v 2, v 3, v 4, v 5, v 6, v 7, v 8, v 9, v 10, v 11, v 12, v 13, v 14, v 15]) (.int .i64 5)).run Try.prog W = .ok (v 5) W) w
  · exact (fun W => by kernel_rfl : ∀ W, (Instr.index 48 (.agg #[v 0, v 1, v 2, v 3, v 4, v 5, v 6, v 7, v 8, v 9, v 10, v 11, v 12, v 13, v 14, v 15]) (.int .i64 6)).run Try.prog W = .ok (v 6) W) w
  · exact (fun W => by kernel_rfl : ∀ W, (Instr.index 48 (.agg #[v 0, v 1, v 2, v 3, v 4, v 5, v 6, v 7, v 8, v 9, v 10, v 11, v 12, v 13, v 14, v 15]) (.int .i64 7)).run Try.prog W = .ok (v 7) W) w
  · exact (fun W => by kernel_rfl : ∀ W, (Instr.index 48 (.agg #[v 0, v 1, v 2, v 3, v 4, v 5, v 6, v 7, v 8, v 9, v 10, v 11, v 12, v 13, v 14, v 15]) (.int .i64 8)).run Try.prog W = .ok (v 8) W) w
  · exact (fun W => by kernel_rfl : ∀ W, (Instr.index 48 (.agg #[v 0, v 1, v 2, v 3, v 4, v 5, v 6, v 7, v 8, v 9, v 10, v 11, v 12, v 13, v 14, v 15]) (.int .i64 9)).run Try.prog W = .ok (v 9) W) w
  · exact (fun W => by kernel_rfl : ∀ W, (Instr.index 48 (.agg #[v 0, v 1, v 2, v 3, v 4, v 5, v 6, v 7, v 8, v 9, v 10, v 11, v 12, v 13, v 14, v 15]) (.int .i64 10)).run Try.prog W = .ok (v 10) W) w
  · exact (fun W => by kernel_rfl : ∀ W, (Instr.index 48 (.agg #[v 0, v 1, v 2, v 3, v 4, v 5, v 6, v 7, v 8, v 9, v 10, v 11, v 12, v 13, v 14, v 15]) (.int .i64 11)).run Try.prog W = .ok (v 11) W) w
  · exact (fun W => by kernel_rfl : ∀ W, (Instr.index 48 (.agg #[v 0, v 1, v 2, v 3, v 4, v 5, v 6, v 7, v 8, v 9, v 10, v 11, v 12, v 13, v 14, v 15]) (.int .i64 12)).run Try.prog W = .ok (v 12) W) w
  · exact (fun W => by kernel_rfl : ∀ W, (Instr.index 48 (.agg #[v 0, v 1, v 2, v 3, v 4, v 5, v 6, v 7, v 8, v 9, v 10, v 11, v 12, v 13, v 14, v 15]) (.int .i64 13)).run Try.prog W = .ok (v 13) W) w
  · exact (fun W => by kernel_rfl : ∀ W, (Instr.index 48 (.agg #[v 0, v 1, v 2, v 3, v 4, v 5, v 6, v 7, v 8, v 9, v 10, v 11, v 12, v 13, v 14, v 15]) (.int .i64 14)).run Try.prog W = .ok (v 14) W) w
  · exact (fun W => by kernel_rfl : ∀ W, (Instr.index 48 (.agg #[v 0, v 1, v 2, v 3, v 4, v 5, v 6, v 7, v 8, v 9, v 10, v 11, v 12, v 13, v 14, v 15]) (.int .i64 15)).run Try.prog W = .ok (v 15) W) w
theorem load_row (w : World) (b : Nat) (L : Nat → List Nat) (v : Nat → Value) (h : Hv w b L v) : (Instr.loadAt 48 (.pointer (some ⟨b, 1, none⟩))).run Try.prog w = .ok (.agg (rowV v)) w := by
  refine run_loadAt_mid w b 1 48 ((List.range 16).map v) _ ?_ Try.underlying48 rfl (by rw [List.length_map]; kernel_rfl)
  intro j u hj
  have hj16 : j < 16 := by
    rcases Nat.lt_or_ge j 16 with e | e
    · exact e
    · rw [List.getElem?_eq_none (by simpa using e)] at hj; cases hj
  have e : u = v j := by simp [hj16] at hj; exact hj.symm
  rw [e]
  exact h.at j hj16

set_option maxRecDepth 100000 in
set_option maxHeartbeats 2000000 in
theorem all_stops (Bn b n0 : Nat) (L : Nat → List Nat) (v : Nat → Value) (w : World) (hB : Blk w Bn 28 #[.pointer (some ⟨b, 0, none⟩)]) (hv : Hv w b L v) (hn : ∀ i, i < 16 → ∀ g, (v i).ownBlock = some g → g < n0) (hl : ∀ i, i < 16 → (L i).length ≤ 1000000) :
    SeqStopsK Fence.wide 8 Try.prog 26 #[.pointer (some ⟨Bn, 0, none⟩)] aEnc (kept n0) (fun xs => xs = allF L 16) (part L) (allF L 16).length w := fun l0 J Jx W hW hJ hJx hY h0 => by
  have hBW : Blk W Bn 28 #[.pointer (some ⟨b, 0, none⟩)] := (hW.block Bn hB.lt).trans hB
  have c0 := hBW.cell 0 rfl
  have hvW : Hv W b L v := hv.keepF (Frm.ofBelow0 hW)
  have Hld := Lib.hid (load_row W b L v hvW)
  have hfe := func_eql
  have Hix := Lib.hid (fun k hk w => index_row v w k hk)
  have Hv2 := Lib.hid hvW
  refine callsIn_of_wp Try.func26 rfl trivial ?_ rfl
  simp only [Try.ntmps26, List.size_toArray, List.length_cons, List.length_nil, Nat.reduceAdd, Nat.reduceSub, Array.replicate_succ, Array.replicate_zero, List.push_toArray, List.append_toArray, List.nil_append, List.cons_append]
  generalize hA : rowV v = A at *
  have HA := Lib.hid hA
  clear hA
  gi_wp2_with (first | (refine ⟨trivial, ?_⟩; gi_at_call 27; refine (callsIn_wide.2 (made_any b L v _ Hv2.out)).mono ?_; rintro e w' ⟨rfl, rfl⟩) | (refine wpListIn_load_run rfl 48 (.tmp 16) rfl _ _ rfl Hld.out ?_))
  gi_loopw [18] (fun i wr => ∃ k : Nat, i = .int .i64 k ∧ k ≤ 16 ∧ J (allF L k) wr ∧ kept n0 W wr) (fun i _ => 16 - (intOf i).toNat)
  case atStart => exact ⟨0, rfl, by omega, h0, fun _ _ => rfl⟩
  case round =>
    obtain ⟨k, rfl, hk, hJs, hkp⟩ := hrel
    by_cases hlt : k < 16
    · have hix := Hix.out k hlt
      have ho : Own wr (v k) (L k) := Row.keepB (hvW.own k hlt) fun g hg => hkp g (hn k hlt g hg)
      obtain ⟨a, cap, hvk, hc1, hc2⟩ := Row.slice ho
      rw [hvk] at hix
      have HK := Lib.hid hvk
      have hll := hl k hlt
      clear hvk ho
      have hk0 : (0 : Int) ≤ (k : Int) := by omega
      have hk16 : (k : Int) < 16 := by omega
      unfold maxLen at hc2
      gi_wp2
      obtain ⟨wo, rfl⟩ : ∃ wo : World, wo = wr := ⟨_, rfl⟩
      gi_loopw [24] (fun j wq => ∃ i : Nat, j = .int .i64 i ∧ i ≤ (L k).length ∧ J (come L k i) wq ∧ kept n0 W wq) (fun j _ => (L k).length - (intOf j).toNat)
      case atStart => exact ⟨0, rfl, Nat.zero_le _, by rw [come_zero]; exact hJs, hkp⟩
      case round =>
        obtain ⟨i, rfl, hi, hJi, hki⟩ := hrel
        by_cases hlt2 : i < (L k).length
        · obtain ⟨fn, tmps, assign, body, hy, hR⟩ := hY (come L k i) (k, (L k)[i]) _ hJi (come_len L k i hlt hlt2)
          dsimp only [aEnc] at hy
          have ho2 : Own wr (v k) (L k) := Row.keepB (hvW.own k hlt) fun g hg => hki g (hn k hlt g hg)
          rw [HK.out] at ho2
          obtain ⟨g, off, rfl, hgl, cg⟩ := ho2.ids.at i hlt2
          clear ho2
          gi_wp2
          refine hR.mono ?_
          rintro e W3 (⟨rfl, hJ3, hk3⟩ | ⟨rfl, hJx3⟩)
          · gi_wp2
            go_roundw
            case rel => exact ⟨i + 1, by go_num, hlt2, by rw [come_succ L k i hlt2]; exact hJ3, fun q hq => (hk3 q hq).trans (hki q hq)⟩
            case measure => simp [intOf]; omega
          · gi_wp2
            refine bodyPost_ret (results_none rfl _ _ _) rfl ?_
            exact ⟨⟨_, rfl⟩, .inr ⟨come L k i ++ [(k, (L k)[i])], ⟨by rw [← come_succ L k i hlt2]; exact come_pre L k (i + 1) hlt, by simp⟩, hJx3⟩⟩
        · obtain rfl : i = (L k).length := by omega
          rw [come_all] at hJi
          gi_wp2
          go_roundw
          case rel => exact ⟨k + 1, by go_num, by omega, hJi, hki⟩
          case measure => simp [intOf]; omega
    · obtain rfl : k = 16 := by omega
      gi_wp2
      go_end0
      exact ⟨⟨_, rfl⟩, .inl ⟨allF L 16, rfl, hJs⟩⟩
end Go.Proofs.Ytmdnacboenehkaa
