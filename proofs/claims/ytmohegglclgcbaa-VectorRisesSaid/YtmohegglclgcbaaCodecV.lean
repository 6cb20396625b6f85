/- What the reading of a var number does. -/
import Derived.Test.YtmohegglclgcbaaCodecT
import Derived.Test.YtmohegglclgcbaaRound
import Derived.RangeFuncNested
import Derived.RangeFuncBound
import Derived.RangeFuncCalls
import Derived.RangeFuncLeaves
import Derived.Shelf.Abstract
import Derived.Shelf.RegionOpen
import Derived.OwnWalkIn
import Derived.TacticsInMore
import Derived.LoopNIn
import Derived.LoopIn
namespace Go.Proofs.Ytmohegglclgcbaa
open Go.RowKit Go.Shelf
attribute [local go_sem] Oper.semAt_some

set_option maxHeartbeats 400000 in
theorem coded_any (l : List UInt8) (w : World) :
    Calls Try.prog 111 #[.string (bs l)] w fun r w' => r = .returned (.func (.func 122) #[] #[.pointer (some ⟨w.heap.size, 0, none⟩)]) ∧ w.alloc (.cells #[.string (bs l)] 9) = w' := by
  go_enter Try.func111, Try.ntmps111
  go_wp2
  go_ret
  exact ⟨rfl, rfl⟩

theorem Blk.keepAt {w w' : World} {b : Nat} {t : TypeId} {cs : Array Value} (h : Blk w b t cs) (e : w'.heap[b]? = w.heap[b]?) : Blk w' b t cs := e.trans h

/-- The places of a text, from the first one on. -/
def upto (l : List UInt8) (k : Nat) : List (Fin l.length) := (List.finRange l.length).take k
theorem upto_zero (l : List UInt8) : upto l 0 = [] := by simp [upto]
theorem upto_succ (l : List UInt8) (k : Nat) (h : k < l.length) : upto l (k + 1) = upto l k ++ [⟨k, h⟩] := by
  unfold upto
  rw [List.take_succ_eq_append_getElem (by simpa using h)]
  simp
theorem upto_len (l : List UInt8) (k : Nat) (h : k ≤ l.length) : (upto l k).length = k := by simp [upto]; omega
/-- The first k bytes all have 128 added. -/
def cont (l : List UInt8) (k : Nat) : Prop := ∀ j, (h : j < l.length) → j < k → 128 ≤ l[j].toNat
theorem cont_succ {l : List UInt8} {k : Nat} (h : cont l k) (hk : k < l.length) (h1 : 128 ≤ l[k].toNat) : cont l (k + 1) := by
  intro j hj hjk
  by_cases e : j = k
  · subst e; exact h1
  · exact h j hj (by omega)
abbrev vEnc (l : List UInt8) (i : Fin l.length) : Array Value := #[.int .i64 i.val, .int .u8 l[i.val].toNat]
def vAll (l : List UInt8) (xs : List (Fin l.length)) : Prop := ∃ k, xs = upto l k ∧ k ≤ l.length ∧ ((k = l.length ∧ cont l k) ∨ ∃ j, k = j + 1 ∧ cont l j ∧ ∃ h : j < l.length, l[j].toNat < 128)
def vPart (l : List UInt8) (xs : List (Fin l.length)) : Prop := ∃ j, xs = upto l (j + 1) ∧ j < l.length ∧ cont l j

set_option maxRecDepth 100000 in
set_option maxHeartbeats 1000000 in
theorem coded_stops (Bn : Nat) (l : List UInt8) (w : World) (hB : Blk w Bn 9 #[.string (bs l)]) (hl : l.length ≤ 140737488355328) :
    SeqStopsK Fence.wide 8 Try.prog 122 #[.pointer (some ⟨Bn, 0, none⟩)] (vEnc l) (fun W W' => W'.heap[Bn]? = W.heap[Bn]?) (vAll l) (vPart l) l.length w := fun l0 J Jx W hW hJ hJx hY h0 => by
  have hBW : Blk W Bn 9 #[.string (bs l)] := (hW.block Bn hB.lt).trans hB
  have c0 := hBW.cell 0 rfl
  have hz : (bs l).size = l.length := rfl
  have hl2 : (bs l).size ≤ 140737488355328 := hl
  refine callsIn_of_wp Try.func122 rfl trivial ?_ rfl
  simp only [Try.ntmps122, List.size_toArray, List.length_cons, List.length_nil, Nat.reduceAdd, Nat.reduceSub, Array.replicate_succ, Array.replicate_zero, List.push_toArray, List.append_toArray, List.nil_append, List.cons_append]
  gi_wp2
  clear c0
  gi_loopw [6] (fun i wr => ∃ k : Nat, i = .int .i64 k ∧ k ≤ l.length ∧ cont l k ∧ J (upto l k) wr ∧ Blk wr Bn 9 #[.string (bs l)]) (fun i _ => l.length - (intOf i).toNat)
  case atStart => exact ⟨0, rfl, Nat.zero_le _, fun j _ h => absurd h (by omega), by rw [upto_zero]; exact h0, hBW⟩
  case round =>
    obtain ⟨k, rfl, hk, hco, hJs, hb⟩ := hrel
    have c1 := hb.cell 0 rfl
    by_cases hlt : k < l.length
    · obtain ⟨fn, tmps, assign, body, hy, hR⟩ := hY (upto l k) ⟨k, hlt⟩ wr hJs (by rw [upto_len l k hk]; exact hlt)
      dsimp only [vEnc] at hy
      have hkz : k < (bs l).size := hlt
      have hy2 : (Instr.yield l0 #[.int .i64 k, .int .u8 ((bs l)[k]'hkz).toNat]).run Try.prog wr = .ok (.round l0 fn tmps assign body) wr := hy
      clear hy
      have hb8 : ((bs l)[k]'hkz).toNat < 256 := l[k].toNat_lt
      by_cases hbyte : ((bs l)[k]'hkz).toNat < 128
      · have hbt : decide (((bs l)[k]'hkz).toNat < 128) = true := by simpa using hbyte
        gi_wp2
        refine hR.mono ?_
        rintro e W3 (⟨rfl, hJ3, hk3⟩ | ⟨rfl, hJx3⟩)
        · have c3 : W3.cell? ⟨Bn, 0, none⟩ = some (.string (bs l)) := (hb.keepAt hk3).cell 0 rfl
          gi_wp2
          refine bodyPost_ret (results_none rfl _ _ _) rfl ?_
          exact ⟨⟨_, rfl⟩, .inl ⟨upto l (k + 1), ⟨k + 1, rfl, hlt, .inr ⟨k, rfl, hco, hlt, hbyte⟩⟩, by rw [upto_succ l k hlt]; exact hJ3⟩⟩
        · gi_wp2
          refine bodyPost_ret (results_none rfl _ _ _) rfl ?_
          exact ⟨⟨_, rfl⟩, .inr ⟨upto l (k + 1), ⟨k, rfl, hlt, hco⟩, by rw [upto_succ l k hlt]; exact hJx3⟩⟩
      · have hbt : decide (((bs l)[k]'hkz).toNat < 128) = false := by simpa using hbyte
        gi_wp2
        refine hR.mono ?_
        rintro e W3 (⟨rfl, hJ3, hk3⟩ | ⟨rfl, hJx3⟩)
        · have hb3 := hb.keepAt hk3
          have c3 : W3.cell? ⟨Bn, 0, none⟩ = some (.string (bs l)) := hb3.cell 0 rfl
          gi_wp2
          go_roundw
          case rel => exact ⟨k + 1, by go_num, hlt, cont_succ hco hlt (Nat.not_lt.1 hbyte), by rw [upto_succ l k hlt]; exact hJ3, hb3⟩
          case measure => simp [intOf]; omega
        · gi_wp2
          refine bodyPost_ret (results_none rfl _ _ _) rfl ?_
          exact ⟨⟨_, rfl⟩, .inr ⟨upto l (k + 1), ⟨k, rfl, hlt, hco⟩, by rw [upto_succ l k hlt]; exact hJx3⟩⟩
    · obtain rfl : k = l.length := by omega
      gi_wp2
      go_end0
      exact ⟨⟨_, rfl⟩, .inl ⟨upto l l.length, ⟨l.length, rfl, Nat.le_refl _, .inl ⟨rfl, hco⟩⟩, hJs⟩⟩

/-- What n holds behind these bytes. -/
def accN (l : List UInt8) (xs : List (Fin l.length)) : Nat := xs.foldl (fun m x => m ||| ((l[x.val].toNat &&& 127) * 2 ^ min (7 * x.val) 32 % 4294967296)) 0
/-- The digit of a byte, at its place. -/
def digN (l : List UInt8) (x : Fin l.length) : Nat := (l[x.val].toNat &&& 127) * 2 ^ min (7 * x.val) 32 % 4294967296
theorem accN_snoc (l : List UInt8) (xs : List (Fin l.length)) (x : Fin l.length) : accN l (xs ++ [x]) = accN l xs ||| digN l x := by simp [accN, digN]
theorem accN_lt (l : List UInt8) (n : Nat) : ∀ xs : List (Fin l.length), xs.length = n → accN l xs < 2 ^ 32 := by
  induction n with
  | zero => intro xs h; obtain rfl : xs = [] := List.eq_nil_of_length_eq_zero h; exact Nat.two_pow_pos 32
  | succ n ih =>
    intro xs h
    rcases List.eq_nil_or_concat xs with rfl | ⟨ys, x, rfl⟩
    · cases h
    · rw [List.concat_eq_append, accN_snoc]
      simp only [List.concat_eq_append, List.length_append, List.length_cons, List.length_nil] at h
      exact Nat.or_lt_two_pow (ih ys (by omega)) (by unfold digN; omega)
theorem dig_not (b : UInt8) : bits BinOp.andNot IntKind.u8 (b.toNat : Int) 128 = ((b.toNat &&& 127 : Nat) : Int) := u8_andNot_nat b.toNat 128 b.toNat_lt (by decide)
theorem dig_u32 (b : UInt8) : IntKind.u32.wrap ((b.toNat &&& 127 : Nat) : Int) = ((b.toNat &&& 127 : Nat) : Int) :=
  IntWalk.u32_in _ (by have := Nat.and_le_right (n := b.toNat) (m := 127); omega)
theorem dig_shl (l : List UInt8) (x : Fin l.length) : Op.shift .shl .u32 ((l[x.val].toNat &&& 127 : Nat) : Int) .i64 (7 * (x.val : Int)) = pure (.int .u32 (digN l x : Nat)) := by
  unfold Op.shift
  rw [if_neg (by omega)]
  simp only [IntKind.wrap_u32']
  unfold digN
  have : (7 * (x.val : Int)).toNat = 7 * x.val := by omega
  rw [this]
  simp [IntKind.bits]
theorem dig_wrap (l : List UInt8) (x : Fin l.length) (hx : x.val ≤ 4) : IntKind.u32.wrap (((l[x.val].toNat &&& 127 : Nat) : Int) * 2 ^ (7 * (x.val : Int)).toNat) = ((digN l x : Nat) : Int) := by
  rw [IntKind.wrap_u32']
  unfold digN
  have h1 : (7 * (x.val : Int)).toNat = 7 * x.val := by omega
  have h2 : min (7 * x.val) 32 = 7 * x.val := by omega
  rw [h1, h2]
  simp
theorem dig_or (l : List UInt8) (xs : List (Fin l.length)) (x : Fin l.length) : bits BinOp.or IntKind.u32 (accN l xs : Nat) (digN l x : Nat) = ((accN l (xs ++ [x]) : Nat) : Int) := by
  rw [accN_snoc, u32_or_nat _ _ (accN_lt l _ xs rfl) (by unfold digN; omega)]

/-- The loop goes on behind this byte. -/
def goesOn (l : List UInt8) (x : Fin l.length) : Prop := 128 ≤ l[x.val].toNat ∧ x.val ≠ 4
def wrong (l : List UInt8) (x : Fin l.length) : Prop := (x.val = 4 ∧ 15 < l[x.val].toNat) ∨ (0 < x.val ∧ l[x.val].toNat = 0)
/-- Between two rounds. -/
structure VarI (w : World) (b : Nat) (l : List UInt8) (pre : List (Fin l.length)) (W : World) : Prop where
  on : ∀ x ∈ pre, goesOn l x
  rd : Rd W b l 0
  r : Blk W w.heap.size 146 #[.pointer (some ⟨b, 0, none⟩)]
  res : Blk W (w.heap.size + 1) 22 #[.int .u32 0]
  n : Blk W (w.heap.size + 1 + 1) 22 #[.int .u32 (accN l pre)]
  frm : Frm (fun _ => False) w W
/-- Where a round has left. -/
structure VarX (w : World) (b : Nat) (l : List UInt8) (pre : List (Fin l.length)) (W : World) : Prop where
  out : ∃ q x, pre = q ++ [x] ∧ (∀ y ∈ q, goesOn l y) ∧ ((wrong l x ∧ Rd W b [] 4 ∧ Blk W (w.heap.size + 1) 22 #[.int .u32 0]) ∨
    (¬ wrong l x ∧ l[x.val].toNat < 128 ∧ Rd W b (l.drop (x.val + 1)) 0 ∧ Blk W (w.heap.size + 1) 22 #[.int .u32 (accN l pre)]))
  frm : Frm (· = b) w W

theorem Blk.turned {W W' : World} {b : Nat} {t : TypeId} {cs : Array Value} {row : Option Nat} (h : Blk W b t cs) (hg : W.grownBy W' row) (hr : ∀ r, row = some r → ∃ o : Obj, W.heap[r]? = some o ∧ o.isCells = false) : Blk W' b t cs := by
  refine (hg.block b h.lt fun e => ?_).trans h
  obtain ⟨o, ho, hc⟩ := hr b e.symm
  rw [h] at ho
  cases ho
  cases hc
theorem Rd.turned {W W' : World} {b : Nat} {l : List UInt8} {e : Nat} {row : Option Nat} (h : Rd W b l e) (hg : W.grownBy W' row) (hr : ∀ r, row = some r → ∃ o : Obj, W.heap[r]? = some o ∧ o.isCells = false) : Rd W' b l e := ⟨h.blk.turned hg hr, h.len, h.err⟩
theorem Frm.turned {X : Nat → Prop} {w W W' : World} {B : Nat} {row : Option Nat} (h : Frm X w W) (hB : w.heap.size ≤ B) (hg : W.grownBy W' row) (hr : ∀ r, row = some r → B ≤ r ∧ ∃ o : Obj, W.heap[r]? = some o ∧ o.isCells = false) : Frm X w W' :=
  h.grown hg fun k hk e => by have := (hr k e).1; omega
theorem VarI.own (w : World) (b : Nat) (l : List UInt8) (B : Nat) (hB : w.heap.size ≤ B) : OwnFrom B (VarI w b l) := fun _ _ _ _ h hg hr =>
  have hr2 := fun r e => (hr r e).2
  ⟨h.on, h.rd.turned hg hr2, h.r.turned hg hr2, h.res.turned hg hr2, h.n.turned hg hr2, h.frm.turned hB hg hr⟩
theorem VarX.own (w : World) (b : Nat) (l : List UInt8) (B : Nat) (hB : w.heap.size ≤ B) : OwnFrom B (VarX w b l) := fun pre W W' row h hg hr => by
  have hr2 := fun r e => (hr r e).2
  refine ⟨?_, h.frm.turned hB hg hr⟩
  obtain ⟨q, x, e, hq, h1 | h1⟩ := h.out
  · exact ⟨q, x, e, hq, .inl ⟨h1.1, h1.2.1.turned hg hr2, h1.2.2.turned hg hr2⟩⟩
  · exact ⟨q, x, e, hq, .inr ⟨h1.1, h1.2.1, h1.2.2.1.turned hg hr2, h1.2.2.2.turned hg hr2⟩⟩

theorem Frm.others {X : Nat → Prop} {w w' : World} (h : Frm X w w') (hx : ∀ k o, X k → w.heap[k]? = some o → o.isCells = true) : KeepsOthers w w' :=
  ⟨h.size, fun k o hk ho => by
    refine (h.block k (Array.getElem?_eq_some_iff.1 hk).1 fun hX => ?_).trans hk
    rw [hx k o hX hk] at ho; cases ho⟩
theorem Blk.isCells {w : World} {b : Nat} {t : TypeId} {cs : Array Value} (h : Blk w b t cs) : ∀ k o, k = b → w.heap[k]? = some o → o.isCells = true := by
  rintro k o rfl ho
  rw [h] at ho
  cases ho
  rfl
theorem VarX.fail {w W W1 : World} {b : Nat} {l : List UInt8} {pre : List (Fin l.length)} (h : Rd w b l 0) (hv : VarI w b l pre W) (x : Fin l.length) (hw : wrong l x) (h1 : Rd W1 b [] 4) (h2 : Frm (· = b) W W1) :
    KeepsOthers W (W1.setCell ⟨w.heap.size + 1, 0, none⟩ (.int .u32 0)) ∧ Code.ret = Code.ret ∧ VarX w b l (pre ++ [x]) (W1.setCell ⟨w.heap.size + 1, 0, none⟩ (.int .u32 0)) := by
  have hlt := h.lt
  have hres : Blk W1 (w.heap.size + 1) 22 #[.int .u32 0] := hv.res.keep h2 (by omega)
  refine ⟨(h2.others hv.rd.blk.isCells).trans (KeepsOthers.setCell _ _ _), rfl, ⟨⟨pre, x, rfl, hv.on, .inl ⟨hw, ⟨h1.blk.other (by simp; omega) _, h1.len, h1.err⟩, hres.set 0 _⟩⟩, ?_⟩⟩
  exact ((hv.frm.mono (Y := (· = b)) (fun _ _ h => h.elim)).next h2 (fun _ _ h => h)).setCell (p := ⟨w.heap.size + 1, 0, none⟩) (fun h => absurd h (by simp)) _

/-- Behind the digit's being put down. -/
structure VarJ (w : World) (b : Nat) (l : List UInt8) (pre : List (Fin l.length)) (W W1 : World) : Prop where
  rd : Rd W1 b l 0
  r : Blk W1 w.heap.size 146 #[.pointer (some ⟨b, 0, none⟩)]
  res : Blk W1 (w.heap.size + 1) 22 #[.int .u32 0]
  n : Blk W1 (w.heap.size + 1 + 1) 22 #[.int .u32 (accN l pre)]
  frm : Frm (fun _ => False) w W1
  oth : KeepsOthers W W1
  bn : W1.heap[w.heap.size + 1 + 1 + 1]? = W.heap[w.heap.size + 1 + 1 + 1]?
theorem VarJ.step {w W : World} {b : Nat} {l : List UInt8} {pre : List (Fin l.length)} (h : Rd w b l 0) (hv : VarI w b l pre W) (x : Fin l.length) :
    VarJ w b l (pre ++ [x]) W (W.setCell ⟨w.heap.size + 1 + 1, 0, none⟩ (.int .u32 (accN l (pre ++ [x])))).drew := by
  have hlt := h.lt
  exact ⟨⟨(hv.rd.blk.other (by simp; omega) _).drew, h.len, by omega⟩, (hv.r.other (by simp; omega) _).drew, (hv.res.other (by simp) _).drew, (hv.n.set 0 _).drew, (hv.frm.setCell (p := ⟨w.heap.size + 1 + 1, 0, none⟩) (fun h => absurd h (by simp; omega)) _).drew,
    (KeepsOthers.setCell _ _ _).trans (KeepsOthers.drew _), Below.heap_setCell _ _ _ _ (by simp)⟩
theorem VarJ.go {w W W1 : World} {b : Nat} {l : List UInt8} {pre : List (Fin l.length)} {x : Fin l.length} (hj : VarJ w b l (pre ++ [x]) W W1) (hv : VarI w b l pre W) (hw : ¬ wrong l x) (hb : ¬ l[x.val].toNat < 128) :
    KeepsOthers W W1 ∧ W1.heap[w.heap.size + 1 + 1 + 1]? = W.heap[w.heap.size + 1 + 1 + 1]? ∧ VarI w b l (pre ++ [x]) W1 := by
  refine ⟨hj.oth, hj.bn, ⟨fun y hy => ?_, hj.rd, hj.r, hj.res, hj.n, hj.frm⟩⟩
  rcases List.mem_append.1 hy with hy | hy
  · exact hv.on y hy
  · obtain rfl : y = x := by simpa using hy
    exact ⟨by omega, fun h4 => hw (.inl ⟨h4, by omega⟩)⟩

theorem VarX.good {w W W1 : World} {b : Nat} {l : List UInt8} {pre : List (Fin l.length)} (h : Rd w b l 0) (hv : VarI w b l pre W) (x : Fin l.length) (hw : ¬ wrong l x) (hb : l[x.val].toNat < 128) (hj : VarJ w b l (pre ++ [x]) W W1) :
    KeepsOthers W ((W1.setCell ⟨b, 0, none⟩ (.string ((bs l).extract (x.val + 1) (bs l).size))).setCell ⟨w.heap.size + 1, 0, none⟩ (.int .u32 (accN l (pre ++ [x])))).drew ∧ Code.ret = Code.ret ∧
      VarX w b l (pre ++ [x]) ((W1.setCell ⟨b, 0, none⟩ (.string ((bs l).extract (x.val + 1) (bs l).size))).setCell ⟨w.heap.size + 1, 0, none⟩ (.int .u32 (accN l (pre ++ [x])))).drew := by
  have hlt := h.lt
  rw [bs_drop]
  have hr := hj.rd.rest (x.val + 1)
  refine ⟨((hj.oth.trans (KeepsOthers.setCell _ _ _)).trans (KeepsOthers.setCell _ _ _)).trans (KeepsOthers.drew _), rfl, ⟨⟨pre, x, rfl, hv.on, .inr ⟨hw, hb, ⟨(hr.blk.other (by simp; omega) _).drew, hr.len, by omega⟩, (((hj.res.other (by simp; omega) _).set 0 _).drew)⟩⟩, ?_⟩⟩
  exact (((hj.frm.mono (Y := (· = b)) (fun _ _ h => h.elim)).setCell (p := ⟨b, 0, none⟩) (fun _ => rfl) _).setCell (p := ⟨w.heap.size + 1, 0, none⟩) (fun h => absurd h (by simp)) _).drew

/-! What is read, in plain words. -/
def varAt (i m : Nat) : List UInt8 → Nat × List UInt8 × Nat
  | [] => (0, [], 10)
  | c :: r => if (i = 4 ∧ 15 < c.toNat) ∨ (0 < i ∧ c.toNat = 0) then (0, [], 4)
      else if c.toNat < 128 then (m + c.toNat * 128 ^ i, r, 0) else varAt (i + 1) (m + (c.toNat - 128) * 128 ^ i) r
theorem and127 (c : Nat) : c &&& 127 = c % 128 := Nat.and_two_pow_sub_one_eq_mod c 7
theorem digN_eq (l : List UInt8) (k : Nat) (hk : k < l.length) (h4 : k ≤ 4) (h15 : k = 4 → l[k].toNat ≤ 15) : digN l ⟨k, hk⟩ = l[k].toNat % 128 * 128 ^ k := by
  have hb := l[k].toNat_lt
  unfold digN
  have h2 : min (7 * k) 32 = 7 * k := by omega
  have h3 : (2 : Nat) ^ (7 * k) = 128 ^ k := by rw [Nat.pow_mul]
  simp only [h2, h3, and127]
  refine Nat.mod_eq_of_lt ?_
  have hd : l[k].toNat % 128 < 128 := Nat.mod_lt _ (by omega)
  rcases (show k = 0 ∨ k = 1 ∨ k = 2 ∨ k = 3 ∨ k = 4 by omega) with rfl | rfl | rfl | rfl | rfl
  · omega
  · omega
  · omega
  · omega
  · have := h15 rfl
    have : l[4].toNat % 128 ≤ 15 := by omega
    omega
theorem or_digit (m d k : Nat) (hm : m < 128 ^ k) : m ||| d * 128 ^ k = m + d * 128 ^ k := by
  have h3 : (2 : Nat) ^ (7 * k) = 128 ^ k := by rw [Nat.pow_mul]
  rw [Nat.or_comm, nat_join (7 * k) _ _ (by rw [h3, Nat.mul_mod_left]) (by rw [h3]; exact hm)]
  omega
theorem accN_pow (l : List UInt8) (k : Nat) (hk : k ≤ l.length) (h4 : k ≤ 4) : accN l (upto l k) < 128 ^ k := by
  induction k with
  | zero => rw [upto_zero]; exact Nat.one_pos
  | succ k ih =>
    have h := ih (by omega) (by omega)
    rw [upto_succ l k (by omega), accN_snoc, digN_eq l k (by omega) (by omega) (by omega), or_digit _ _ _ h]
    have hd : l[k].toNat % 128 < 128 := Nat.mod_lt _ (by omega)
    have : l[k].toNat % 128 * 128 ^ k ≤ 127 * 128 ^ k := Nat.mul_le_mul_right _ (by omega)
    rw [Nat.pow_succ]
    omega
theorem varAt_walk (l : List UInt8) (k : Nat) (hk : k ≤ l.length) (h4 : k ≤ 4) (hc : cont l k) : varAt 0 0 l = varAt k (accN l (upto l k)) (l.drop k) := by
  induction k with
  | zero => rw [upto_zero]; rfl
  | succ k ih =>
    have h1 := hc k (by omega) (by omega)
    have hb := l[k].toNat_lt
    rw [ih (by omega) (by omega) (fun j hj hjk => hc j hj (by omega)), List.drop_eq_getElem_cons (by omega), varAt, if_neg (by omega), if_neg (by omega),
      upto_succ l k (by omega), accN_snoc, digN_eq l k (by omega) (by omega) (by omega), or_digit _ _ _ (accN_pow l k (by omega) (by omega))]
    have : l[k].toNat % 128 = l[k].toNat - 128 := by omega
    rw [this]
theorem varAt_torn (l : List UInt8) (h4 : l.length ≤ 4) (hc : cont l l.length) : varAt 0 0 l = (0, [], 10) := by
  rw [varAt_walk l l.length (Nat.le_refl _) h4 hc, List.drop_length]; rfl
theorem varAt_wrong (l : List UInt8) (k : Nat) (hk : k < l.length) (h4 : k ≤ 4) (hc : cont l k) (hw : wrong l ⟨k, hk⟩) : varAt 0 0 l = (0, [], 4) := by
  rw [varAt_walk l k (by omega) h4 hc, List.drop_eq_getElem_cons hk, varAt, if_pos (show (k = 4 ∧ 15 < l[k].toNat) ∨ (0 < k ∧ l[k].toNat = 0) from hw)]
theorem varAt_good (l : List UInt8) (k : Nat) (hk : k < l.length) (h4 : k ≤ 4) (hc : cont l k) (hw : ¬ wrong l ⟨k, hk⟩) (hb : l[k].toNat < 128) : varAt 0 0 l = (accN l (upto l (k + 1)), l.drop (k + 1), 0) := by
  have h15 : k = 4 → l[k].toNat ≤ 15 := fun e => Nat.not_lt.1 fun h => hw (.inl ⟨e, h⟩)
  rw [varAt_walk l k (by omega) h4 hc, List.drop_eq_getElem_cons hk, varAt, if_neg (show ¬ ((k = 4 ∧ 15 < l[k].toNat) ∨ (0 < k ∧ l[k].toNat = 0)) from hw), if_pos hb, upto_succ l k hk, accN_snoc, digN_eq l k hk h4 h15, or_digit _ _ _ (accN_pow l k (by omega) h4)]
  have : l[k].toNat % 128 = l[k].toNat := Nat.mod_eq_of_lt hb
  rw [this]
theorem upto_mem (l : List UInt8) (k j : Nat) (hj : j < k) (hl : j < l.length) : (⟨j, hl⟩ : Fin l.length) ∈ upto l k := by
  unfold upto
  rw [List.mem_take_iff_getElem]
  exact ⟨j, by simp; omega, by simp⟩
theorem goesOn_le {l : List UInt8} {k : Nat} (hk : k ≤ l.length) (h : ∀ x ∈ upto l k, goesOn l x) : k ≤ 4 := by
  rcases Nat.lt_or_ge 4 k with h5 | h5
  · exact absurd rfl (h ⟨4, by omega⟩ (upto_mem l k 4 h5 (by omega))).2
  · exact h5
theorem upto_split {l : List UInt8} {j : Nat} (hj : j < l.length) {q : List (Fin l.length)} {x : Fin l.length} (h : upto l (j + 1) = q ++ [x]) : q = upto l j ∧ x = ⟨j, hj⟩ := by
  rw [upto_succ l j hj] at h
  have := List.append_inj' h rfl
  exact ⟨this.1.symm, by simpa using this.2.symm⟩
/-- What reading a var number does. -/
def varS (l : List UInt8) (e : Nat) : Nat × List UInt8 × Nat := if e = 0 then varAt 0 0 l else (0, l, e)
theorem var_done {l : List UInt8} {xs : List (Fin l.length)} (hS : vAll l xs) (hon : ∀ x ∈ xs, goesOn l x) : varAt 0 0 l = (0, [], 10) := by
  obtain ⟨k, rfl, hk, ⟨rfl, hc⟩ | ⟨j, rfl, hc, hj, hb⟩⟩ := hS
  · exact varAt_torn l (goesOn_le (Nat.le_refl _) hon) hc
  · have := (hon ⟨j, hj⟩ (upto_mem l (j + 1) j (by omega) hj)).1
    simp only at this
    omega
theorem var_stop {w W : World} {b : Nat} {l : List UInt8} {pre : List (Fin l.length)} (hS : vPart l pre) (hx : VarX w b l pre W) :
    Rd W b (varAt 0 0 l).2.1 (varAt 0 0 l).2.2 ∧ Blk W (w.heap.size + 1) 22 #[.int .u32 (varAt 0 0 l).1] := by
  obtain ⟨j, rfl, hj, hc⟩ := hS
  obtain ⟨q, x, e, hq, h⟩ := hx.out
  obtain ⟨rfl, rfl⟩ := upto_split hj e
  have h4 := goesOn_le (by omega) hq
  rcases h with ⟨h1, h2, h3⟩ | ⟨h1, h2, h3, h5⟩
  · rw [varAt_wrong l j hj h4 hc h1]; exact ⟨h2, h3⟩
  · rw [varAt_good l j hj h4 hc h1 h2]; exact ⟨h3, h5⟩

set_option maxRecDepth 100000 in
set_option maxHeartbeats 4000000 in
theorem var_in (b : Nat) (l : List UInt8) (w : World) (h : Rd w b l 0) :
    CallsIn Fence.wide 9 Try.prog 94 #[.pointer (some ⟨b, 0, none⟩)] w fun r w' => r = .returned (.int .u32 (varAt 0 0 l).1) ∧ Rd w' b (varAt 0 0 l).2.1 (varAt 0 0 l).2.2 ∧ Frm (· = b) w w' := by
  have c0 : (((w.alloc (.cells #[.pointer (some ⟨b, 0, none⟩)] 146)).alloc (.cells #[.int .u32 0] 22)).alloc (.cells #[.int .u32 0] 22)).cell? ⟨b, 0, none⟩ = some (.string (bs l)) :=
    (((h.blk.old _).old _).old _).cell 0 rfl
  refine callsIn_of_wp_marks Try.func94 rfl trivial ?_ rfl
  simp only [Try.ntmps94, List.size_toArray, List.length_cons, List.length_nil, Nat.reduceAdd, Nat.reduceSub, Array.replicate_succ, Array.replicate_zero, List.push_toArray, List.append_toArray, List.nil_append, List.cons_append]
  gi_wp2_with (refine ⟨trivial, ?_⟩; gi_at_call 111; refine (callsIn_wide.2 (coded_any l _)).mono ?_; rintro e w' ⟨rfl, rfl⟩)
  clear c0
  have hBn := Blk.alloc (((w.alloc (.cells #[.pointer (some ⟨b, 0, none⟩)] 146)).alloc (.cells #[.int .u32 0] 22)).alloc (.cells #[.int .u32 0] 22)) 9 #[.string (bs l)]
  have hI0 : VarI w b l [] ((((w.alloc (.cells #[.pointer (some ⟨b, 0, none⟩)] 146)).alloc (.cells #[.int .u32 0] 22)).alloc (.cells #[.int .u32 0] 22)).alloc (.cells #[.string (bs l)] 9)) :=
    ⟨by simp, ⟨(((h.blk.old _).old _).old _).old _, h.len, h.err⟩, (((Blk.alloc w _ _).old _).old _).old _,
      by have := ((Blk.alloc (w.alloc (.cells #[.pointer (some ⟨b, 0, none⟩)] 146)) 22 #[.int .u32 0]).old (.cells #[.int .u32 0] 22)).old (.cells #[.string (bs l)] 9); simpa using this,
      by have := (Blk.alloc ((w.alloc (.cells #[.pointer (some ⟨b, 0, none⟩)] 146)).alloc (.cells #[.int .u32 0] 22)) 22 #[.int .u32 0]).old (.cells #[.string (bs l)] 9); simpa [accN] using this,
      (((((Frm.refl _ w).alloc _).alloc _).alloc _).alloc _)⟩
  refine wpIn_rangeFunc_ownF rfl (by omega) (gf := 122) (lb := #[.pointer (some ⟨w.heap.size + 1 + 1 + 1, 0, none⟩)]) rfl trivial (enters_of Try.func122 (by kernel_rfl) rfl)
    (coded_stops (w.heap.size + 1 + 1 + 1) l _ (by simpa using hBn) h.len) (fun h1 h2 => h2.trans h1) (fun W j o o' hj _ _ _ => World.putObj_heap_other (by simp at hj; omega)) (Below.refl _ _) (fun _ => rfl)
    (VarI w b l) (fun c pre W => c = .ret ∧ VarX w b l pre W) (VarI.own w b l _ (by simp; omega)) (fun c => OwnFrom.and (fun _ _ _ _ e _ _ => e) (VarX.own w b l _ (by simp; omega))) hI0
    (fun x => { tmps := #[.pointer (some ⟨b, 0, none⟩), .pointer (some ⟨w.heap.size, 0, none⟩), .pointer (some ⟨w.heap.size + 1, 0, none⟩), .pointer (some ⟨w.heap.size + 1 + 1, 0, none⟩), .int .i64 x.val, .int .u8 l[x.val].toNat, .pointer (some ⟨b, 0, none⟩), .bool false, .pointer (some ⟨b, 0, none⟩), .pointer (some ⟨b, 0, none⟩), .pointer (some ⟨b, 0, none⟩), .string (bs l), .func (.func 122) #[] #[.pointer (some ⟨w.heap.size + 1 + 1 + 1, 0, none⟩)], .int .i64 x.val, .int .u8 l[x.val].toNat, undef, undef, undef, undef, undef, undef, undef, undef, undef, undef, undef, undef, undef, undef, undef, undef, undef, undef, undef, undef, undef, undef, undef, undef, undef, undef, undef, undef, undef, undef, undef, undef, undef, undef, undef, undef, undef, undef, undef], defers := [] }) ?assign ?body ?done ?stop
  case assign =>
    intro l0 x W K hK
    gi_wp2
    exact hK
  case body =>
    rintro l0 pre x W hv _
    have cr : W.cell? ⟨w.heap.size, 0, none⟩ = some (.pointer (some ⟨b, 0, none⟩)) := hv.r.cell 0 rfl
    have cres : W.cell? ⟨w.heap.size + 1, 0, none⟩ = some (.int .u32 0) := hv.res.cell 0 rfl
    have fres := hv.res.free 0
    have cn : W.cell? ⟨w.heap.size + 1 + 1, 0, none⟩ = some (.int .u32 (accN l pre)) := hv.n.cell 0 rfl
    have fn := hv.n.free 0
    have c0 := hv.rd.c0
    have f0 := hv.rd.blk.free 0
    have hb8 : l[x.val].toNat < 256 := l[x.val].toNat_lt
    have hx := x.isLt
    have hl := h.len
    have hblt := h.lt
    have fails : CallsIn (Fence.wide.inRound l0) 6 Try.prog 112 #[.pointer (some ⟨b, 0, none⟩), .int .i64 4] W fun e W1 => e = .returned (.tuple #[]) ∧ Rd W1 b [] 4 ∧ Frm (· = b) W W1 ∧ W1.cell? ⟨w.heap.size + 1, 0, none⟩ = some (.int .u32 0) ∧ W1.frozen? ⟨w.heap.size + 1, 0, none⟩ = false :=
      (CallsIn.inRound l0 (callsIn_wide.2 (fail_first b l 4 _ hv.rd (by omega)))).mono fun e W1 ⟨h1, h2, h3⟩ => by
        have hres := hv.res.keep h3 (by omega)
        exact ⟨h1, h2, h3, hres.cell 0 rfl, hres.free 0⟩
    have Hf := Lib.hid fails
    clear fails
    by_cases hwr : wrong l x
    · rcases hwr with ⟨h4, h15⟩ | ⟨h0, hz⟩
      · have h4a : 4 ≤ x.val := by omega
        have h4b : x.val ≤ 4 := by omega
        have H4 := Lib.hid h4
        clear h4
        gi_wp2_with fail
        refine ⟨trivial, Hf.out.mono ?_⟩
        rintro e W1 ⟨rfl, h1, h2, c1, f1⟩
        gi_wp2
        exact VarX.fail h hv x (.inl ⟨H4.out, h15⟩) h1 h2
      · have hza : ((l[x.val].toNat : Int) == 0) = true := by rw [hz]; rfl
        have hzb : l[x.val].toNat ≤ 0 := by rw [hz]; exact Nat.le_refl _
        have H0 := Lib.hid hz
        clear hz
        by_cases h4 : x.val = 4
        · have h4a : 4 ≤ x.val := by omega
          have h4b : x.val ≤ 4 := by omega
          clear h4
          gi_wp2_with fail
          refine ⟨trivial, Hf.out.mono ?_⟩
          rintro e W1 ⟨rfl, h1, h2, c1, f1⟩
          gi_wp2
          exact VarX.fail h hv x (.inr ⟨h0, H0.out⟩) h1 h2
        · have h4a : ((x.val : Int) == 4) = false := by simp; omega
          gi_wp2_with fail
          refine ⟨trivial, Hf.out.mono ?_⟩
          rintro e W1 ⟨rfl, h1, h2, c1, f1⟩
          gi_wp2
          exact VarX.fail h hv x (.inr ⟨h0, H0.out⟩) h1 h2
    · have hmix : Try.prog.follows .mixedOrders = true := by kernel_rfl
      have d1 := dig_not l[x.val]
      have d2 := dig_u32 l[x.val]
      have d3 := dig_shl l x
      have d4 := dig_or l pre x
      have d5 : IntKind.i64.wrap (7 * (x.val : Int)) = 7 * (x.val : Int) := IntWalk.i64_in _ (by omega)
      have d6 : IntKind.i64.wrap ((x.val : Int) + 1) = (x.val : Int) + 1 := IntWalk.i64_in _ (by omega)
      have hx2 : (x.val : Int) + 1 ≤ ((bs l).size : Int) := by have : (bs l).size = l.length := rfl; omega
      have hx3 : (0 : Int) ≤ (x.val : Int) + 1 := by omega
      by_cases h4 : x.val = 4
      · have h4a : 4 ≤ x.val := by omega
        have h4b : x.val ≤ 4 := by omega
        have h15 : l[x.val].toNat ≤ 15 := Nat.not_lt.1 fun h15 => hwr (.inl ⟨h4, h15⟩)
        have hb0 : ((l[x.val].toNat : Int) == 0) = false := by
          simp
          exact fun hz => hwr (.inr ⟨by omega, hz⟩)
        have h4a : ((x.val : Int) == 4) = true := by rw [h4]; rfl
        have h0 : 0 < x.val := by omega
        have d7 := dig_wrap l x (by omega)
        have H4 := Lib.hid h4
        clear h4
        gi_wp2_with fail
        refine wpIn_region_round rfl hmix (by kernel_rfl) ?_
        refine wpAnyIn_take (i := 1) (v := ?_) rfl rfl (by kernel_rfl) (by kernel_rfl) (by kernel_rfl) (fun _ _ _ h => h) ⟨Or.inl ⟨by rfl, ?y1⟩, fun _ => rfl⟩ ?_
        case y1 => intro w; go_simp; rfl
        refine wpAnyIn_take (i := 2) (v := ?_) rfl rfl (by kernel_rfl) (by kernel_rfl) (by kernel_rfl) (fun _ _ _ h => h) ⟨Or.inl ⟨by rfl, ?y2⟩, fun _ => rfl⟩ ?_
        case y2 => intro w; go_simp; rfl
        refine wpAnyIn_take (i := 3) (v := ?_) rfl rfl (by kernel_rfl) (by kernel_rfl) (by kernel_rfl) (fun _ _ _ h => h) ⟨Or.inl ⟨by rfl, ?y3⟩, fun _ => rfl⟩ ?_
        case y3 => intro w; go_simp; rfl
        refine wpAnyIn_take (i := 4) (v := ?_) rfl rfl (by kernel_rfl) (by kernel_rfl) (by kernel_rfl) (fun _ _ _ h => h) ⟨Or.inl ⟨by rfl, ?y4⟩, fun _ => rfl⟩ ?_
        case y4 => intro w; go_simp; rfl
        refine wpAnyIn_take (i := 5) (v := ?_) rfl rfl (by kernel_rfl) (by kernel_rfl) (by kernel_rfl) (fun _ _ _ h => h) ⟨Or.inl ⟨by rfl, ?y5⟩, fun _ => rfl⟩ ?_
        case y5 => intro w; go_simp; rfl
        refine wpAnyIn_take (i := 6) (v := ?_) rfl rfl (by kernel_rfl) (by kernel_rfl) (by kernel_rfl) (fun _ _ _ h => h) ⟨Or.inl ⟨by rfl, ?y6⟩, fun _ => rfl⟩ ?_
        case y6 => intro w; go_simp; rfl
        refine wpAnyIn_ready (rs := [0]) (by kernel_rfl) (by simp) (AllReadyIn.cons rfl (fun K hK => ?_) AllReadyIn.nil)
        go_simp
        refine hK _ _ ?_
        clear hK K
        refine wpAnyIn_ready (rs := [7]) (by kernel_rfl) (by simp) (AllReadyIn.cons rfl (fun K hK => ?_) AllReadyIn.nil)
        go_simp
        refine hK _ _ ?_
        clear hK K
        refine wpAnyIn_ready (rs := [8]) (by kernel_rfl) (by simp) (AllReadyIn.cons rfl (fun K hK => ?_) AllReadyIn.nil)
        go_simp
        refine hK _ _ ?_
        clear hK K
        refine wpAnyIn_done (by kernel_rfl) ?_ _
        obtain ⟨W1, hW1⟩ : ∃ W1, (W.setCell ⟨w.heap.size + 1 + 1, 0, none⟩ (.int .u32 (accN l (pre ++ [x])))).drew = W1 := ⟨_, rfl⟩
        have hI1 := VarJ.step h hv x
        rw [hW1] at hI1 ⊢
        clear hW1 cr cres fres cn fn c0 f0
        have cr := hI1.r.cell 0 rfl
        have cres := hI1.res.cell 0 rfl
        have fres := hI1.res.free 0
        have cn := hI1.n.cell 0 rfl
        have c0 := hI1.rd.c0
        have f0 := hI1.rd.blk.free 0
        by_cases hbyte : l[x.val].toNat < 128
        · have hbt : decide (l[x.val].toNat < 128) = true := by simpa using hbyte
          gi_wp2_with fail
          refine wpIn_region_round rfl hmix (by kernel_rfl) ?_
          refine wpAnyIn_take (i := 5) (v := ?_) rfl rfl (by kernel_rfl) (by kernel_rfl) (by kernel_rfl) (fun _ _ _ h => h) ⟨Or.inl ⟨by rfl, ?y5⟩, fun _ => rfl⟩ ?_
          case y5 => intro w; go_simp; rfl
          refine wpAnyIn_take (i := 6) (v := ?_) rfl rfl (by kernel_rfl) (by kernel_rfl) (by kernel_rfl) (fun _ _ _ h => h) ⟨Or.inl ⟨by rfl, ?y6⟩, fun _ => rfl⟩ ?_
          case y6 => intro w; go_simp; rfl
          refine wpAnyIn_ready (rs := [0, 1]) (by kernel_rfl) (by simp) (AllReadyIn.cons rfl (fun K hK => ?_) (AllReadyIn.cons rfl (fun K hK => ?_) AllReadyIn.nil))
          · go_simp
            refine hK _ _ ?_
            clear hK K
            refine wpAnyIn_ready (rs := [1]) (by kernel_rfl) (by simp) (AllReadyIn.cons rfl (fun K hK => ?_) AllReadyIn.nil)
            go_simp
            refine hK _ _ ?_
            clear hK K
            refine wpAnyIn_take (i := 2) (v := ?_) rfl rfl (by kernel_rfl) (by kernel_rfl) (by kernel_rfl) (fun _ _ _ h => h) ⟨Or.inl ⟨by rfl, ?y2⟩, fun _ => rfl⟩ ?_
            case y2 => intro w; go_simp; rfl
            refine wpAnyIn_take (i := 3) (v := ?_) rfl rfl (by kernel_rfl) (by kernel_rfl) (by kernel_rfl) (fun _ _ _ h => h) ⟨Or.inl ⟨by rfl, ?y3⟩, fun _ => rfl⟩ ?_
            case y3 => intro w; go_simp; rfl
            refine wpAnyIn_ready (rs := [4]) (by kernel_rfl) (by simp) (AllReadyIn.cons rfl (fun K hK => ?_) AllReadyIn.nil)
            go_simp
            refine hK _ _ ?_
            clear hK K
            refine wpAnyIn_take (i := 7) (v := ?_) rfl rfl (by kernel_rfl) (by kernel_rfl) (by kernel_rfl) (fun _ _ _ h => h) ⟨Or.inl ⟨by rfl, ?y7⟩, fun _ => rfl⟩ ?_
            case y7 => intro w; go_simp; rfl
            refine wpAnyIn_take (i := 8) (v := ?_) rfl rfl (by kernel_rfl) (by kernel_rfl) (by kernel_rfl) (fun _ _ _ h => h) ⟨Or.inl ⟨by rfl, ?y8⟩, fun _ => rfl⟩ ?_
            case y8 => intro w; go_simp; rfl
            refine wpAnyIn_take (i := 9) (v := ?_) rfl rfl (by kernel_rfl) (by kernel_rfl) (by kernel_rfl) (fun _ _ _ h => h) ⟨Or.inl ⟨by rfl, ?y9⟩, fun _ => rfl⟩ ?_
            case y9 => intro w; go_simp; rfl
            refine wpAnyIn_ready (rs := [10]) (by kernel_rfl) (by simp) (AllReadyIn.cons rfl (fun K hK => ?_) AllReadyIn.nil)
            go_simp
            refine hK _ _ ?_
            clear hK K
            refine wpAnyIn_done (by kernel_rfl) ?_ _
            gi_wp2
            exact VarX.good h hv x hwr hbyte hI1
          · go_simp
            refine hK _ _ ?_
            clear hK K
            refine wpAnyIn_take (i := 2) (v := ?_) rfl rfl (by kernel_rfl) (by kernel_rfl) (by kernel_rfl) (fun _ _ _ h => h) ⟨Or.inl ⟨by rfl, ?y2⟩, fun _ => rfl⟩ ?_
            case y2 => intro w; go_simp; rfl
            refine wpAnyIn_take (i := 3) (v := ?_) rfl rfl (by kernel_rfl) (by kernel_rfl) (by kernel_rfl) (fun _ _ _ h => h) ⟨Or.inl ⟨by rfl, ?y3⟩, fun _ => rfl⟩ ?_
            case y3 => intro w; go_simp; rfl
            refine wpAnyIn_ready (rs := [0, 4]) (by kernel_rfl) (by simp) (AllReadyIn.cons rfl (fun K hK => ?_) (AllReadyIn.cons rfl (fun K hK => ?_) AllReadyIn.nil))
            · go_simp
              refine hK _ _ ?_
              clear hK K
              refine wpAnyIn_ready (rs := [4]) (by kernel_rfl) (by simp) (AllReadyIn.cons rfl (fun K hK => ?_) AllReadyIn.nil)
              go_simp
              refine hK _ _ ?_
              clear hK K
              refine wpAnyIn_take (i := 7) (v := ?_) rfl rfl (by kernel_rfl) (by kernel_rfl) (by kernel_rfl) (fun _ _ _ h => h) ⟨Or.inl ⟨by rfl, ?y7⟩, fun _ => rfl⟩ ?_
              case y7 => intro w; go_simp; rfl
              refine wpAnyIn_take (i := 8) (v := ?_) rfl rfl (by kernel_rfl) (by kernel_rfl) (by kernel_rfl) (fun _ _ _ h => h) ⟨Or.inl ⟨by rfl, ?y8⟩, fun _ => rfl⟩ ?_
              case y8 => intro w; go_simp; rfl
              refine wpAnyIn_take (i := 9) (v := ?_) rfl rfl (by kernel_rfl) (by kernel_rfl) (by kernel_rfl) (fun _ _ _ h => h) ⟨Or.inl ⟨by rfl, ?y9⟩, fun _ => rfl⟩ ?_
              case y9 => intro w; go_simp; rfl
              refine wpAnyIn_ready (rs := [10]) (by kernel_rfl) (by simp) (AllReadyIn.cons rfl (fun K hK => ?_) AllReadyIn.nil)
              go_simp
              refine hK _ _ ?_
              clear hK K
              refine wpAnyIn_done (by kernel_rfl) ?_ _
              gi_wp2
              exact VarX.good h hv x hwr hbyte hI1
            · go_simp
              refine hK _ _ ?_
              clear hK K
              refine wpAnyIn_take (i := 7) (v := ?_) rfl rfl (by kernel_rfl) (by kernel_rfl) (by kernel_rfl) (fun _ _ _ h => h) ⟨Or.inl ⟨by rfl, ?y7⟩, fun _ => rfl⟩ ?_
              case y7 => intro w; go_simp; rfl
              refine wpAnyIn_ready (rs := [0]) (by kernel_rfl) (by simp) (AllReadyIn.cons rfl (fun K hK => ?_) AllReadyIn.nil)
              go_simp
              refine hK _ _ ?_
              clear hK K
              refine wpAnyIn_take (i := 8) (v := ?_) rfl rfl (by kernel_rfl) (by kernel_rfl) (by kernel_rfl) (fun _ _ _ h => h) ⟨Or.inl ⟨by rfl, ?y8⟩, fun _ => rfl⟩ ?_
              case y8 => intro w; go_simp; rfl
              refine wpAnyIn_take (i := 9) (v := ?_) rfl rfl (by kernel_rfl) (by kernel_rfl) (by kernel_rfl) (fun _ _ _ h => h) ⟨Or.inl ⟨by rfl, ?y9⟩, fun _ => rfl⟩ ?_
              case y9 => intro w; go_simp; rfl
              refine wpAnyIn_ready (rs := [10]) (by kernel_rfl) (by simp) (AllReadyIn.cons rfl (fun K hK => ?_) AllReadyIn.nil)
              go_simp
              refine hK _ _ ?_
              clear hK K
              refine wpAnyIn_done (by kernel_rfl) ?_ _
              gi_wp2
              exact VarX.good h hv x hwr hbyte hI1
        · have hbt : decide (l[x.val].toNat < 128) = false := by simpa using hbyte
          gi_wp2 <;> exact hI1.go hv hwr hbyte
      · have h4a : ((x.val : Int) == 4) = false := by simp; omega
        by_cases h0 : 0 < x.val
        · have hb0 : ((l[x.val].toNat : Int) == 0) = false := by
            simp
            exact fun hz => hwr (.inr ⟨by omega, hz⟩)
          gi_wp2_with fail
          refine wpIn_region_round rfl hmix (by kernel_rfl) ?_
          refine wpAnyIn_take (i := 1) (v := ?_) rfl rfl (by kernel_rfl) (by kernel_rfl) (by kernel_rfl) (fun _ _ _ h => h) ⟨Or.inl ⟨by rfl, ?y1⟩, fun _ => rfl⟩ ?_
          case y1 => intro w; go_simp; rfl
          refine wpAnyIn_take (i := 2) (v := ?_) rfl rfl (by kernel_rfl) (by kernel_rfl) (by kernel_rfl) (fun _ _ _ h => h) ⟨Or.inl ⟨by rfl, ?y2⟩, fun _ => rfl⟩ ?_
          case y2 => intro w; go_simp; rfl
          refine wpAnyIn_take (i := 3) (v := ?_) rfl rfl (by kernel_rfl) (by kernel_rfl) (by kernel_rfl) (fun _ _ _ h => h) ⟨Or.inl ⟨by rfl, ?y3⟩, fun _ => rfl⟩ ?_
          case y3 => intro w; go_simp; rfl
          refine wpAnyIn_take (i := 4) (v := ?_) rfl rfl (by kernel_rfl) (by kernel_rfl) (by kernel_rfl) (fun _ _ _ h => h) ⟨Or.inl ⟨by rfl, ?y4⟩, fun _ => rfl⟩ ?_
          case y4 => intro w; go_simp; rfl
          refine wpAnyIn_take (i := 5) (v := ?_) rfl rfl (by kernel_rfl) (by kernel_rfl) (by kernel_rfl) (fun _ _ _ h => h) ⟨Or.inl ⟨by rfl, ?y5⟩, fun _ => rfl⟩ ?_
          case y5 => intro w; go_simp; rfl
          refine wpAnyIn_take (i := 6) (v := ?_) rfl rfl (by kernel_rfl) (by kernel_rfl) (by kernel_rfl) (fun _ _ _ h => h) ⟨Or.inl ⟨by rfl, ?y6⟩, fun _ => rfl⟩ ?_
          case y6 => intro w; go_simp; rfl
          refine wpAnyIn_ready (rs := [0]) (by kernel_rfl) (by simp) (AllReadyIn.cons rfl (fun K hK => ?_) AllReadyIn.nil)
          go_simp
          refine hK _ _ ?_
          clear hK K
          refine wpAnyIn_ready (rs := [7]) (by kernel_rfl) (by simp) (AllReadyIn.cons rfl (fun K hK => ?_) AllReadyIn.nil)
          go_simp
          refine hK _ _ ?_
          clear hK K
          refine wpAnyIn_ready (rs := [8]) (by kernel_rfl) (by simp) (AllReadyIn.cons rfl (fun K hK => ?_) AllReadyIn.nil)
          go_simp
          refine hK _ _ ?_
          clear hK K
          refine wpAnyIn_done (by kernel_rfl) ?_ _
          obtain ⟨W1, hW1⟩ : ∃ W1, (W.setCell ⟨w.heap.size + 1 + 1, 0, none⟩ (.int .u32 (accN l (pre ++ [x])))).drew = W1 := ⟨_, rfl⟩
          have hI1 := VarJ.step h hv x
          rw [hW1] at hI1 ⊢
          clear hW1 cr cres fres cn fn c0 f0
          have cr := hI1.r.cell 0 rfl
          have cres := hI1.res.cell 0 rfl
          have fres := hI1.res.free 0
          have cn := hI1.n.cell 0 rfl
          have c0 := hI1.rd.c0
          have f0 := hI1.rd.blk.free 0
          by_cases hbyte : l[x.val].toNat < 128
          · have hbt : decide (l[x.val].toNat < 128) = true := by simpa using hbyte
            gi_wp2_with fail
            refine wpIn_region_round rfl hmix (by kernel_rfl) ?_
            refine wpAnyIn_take (i := 5) (v := ?_) rfl rfl (by kernel_rfl) (by kernel_rfl) (by kernel_rfl) (fun _ _ _ h => h) ⟨Or.inl ⟨by rfl, ?y5⟩, fun _ => rfl⟩ ?_
            case y5 => intro w; go_simp; rfl
            refine wpAnyIn_take (i := 6) (v := ?_) rfl rfl (by kernel_rfl) (by kernel_rfl) (by kernel_rfl) (fun _ _ _ h => h) ⟨Or.inl ⟨by rfl, ?y6⟩, fun _ => rfl⟩ ?_
            case y6 => intro w; go_simp; rfl
            refine wpAnyIn_ready (rs := [0, 1]) (by kernel_rfl) (by simp) (AllReadyIn.cons rfl (fun K hK => ?_) (AllReadyIn.cons rfl (fun K hK => ?_) AllReadyIn.nil))
            · go_simp
              refine hK _ _ ?_
              clear hK K
              refine wpAnyIn_ready (rs := [1]) (by kernel_rfl) (by simp) (AllReadyIn.cons rfl (fun K hK => ?_) AllReadyIn.nil)
              go_simp
              refine hK _ _ ?_
              clear hK K
              refine wpAnyIn_take (i := 2) (v := ?_) rfl rfl (by kernel_rfl) (by kernel_rfl) (by kernel_rfl) (fun _ _ _ h => h) ⟨Or.inl ⟨by rfl, ?y2⟩, fun _ => rfl⟩ ?_
              case y2 => intro w; go_simp; rfl
              refine wpAnyIn_take (i := 3) (v := ?_) rfl rfl (by kernel_rfl) (by kernel_rfl) (by kernel_rfl) (fun _ _ _ h => h) ⟨Or.inl ⟨by rfl, ?y3⟩, fun _ => rfl⟩ ?_
              case y3 => intro w; go_simp; rfl
              refine wpAnyIn_ready (rs := [4]) (by kernel_rfl) (by simp) (AllReadyIn.cons rfl (fun K hK => ?_) AllReadyIn.nil)
              go_simp
              refine hK _ _ ?_
              clear hK K
              refine wpAnyIn_take (i := 7) (v := ?_) rfl rfl (by kernel_rfl) (by kernel_rfl) (by kernel_rfl) (fun _ _ _ h => h) ⟨Or.inl ⟨by rfl, ?y7⟩, fun _ => rfl⟩ ?_
              case y7 => intro w; go_simp; rfl
              refine wpAnyIn_take (i := 8) (v := ?_) rfl rfl (by kernel_rfl) (by kernel_rfl) (by kernel_rfl) (fun _ _ _ h => h) ⟨Or.inl ⟨by rfl, ?y8⟩, fun _ => rfl⟩ ?_
              case y8 => intro w; go_simp; rfl
              refine wpAnyIn_take (i := 9) (v := ?_) rfl rfl (by kernel_rfl) (by kernel_rfl) (by kernel_rfl) (fun _ _ _ h => h) ⟨Or.inl ⟨by rfl, ?y9⟩, fun _ => rfl⟩ ?_
              case y9 => intro w; go_simp; rfl
              refine wpAnyIn_ready (rs := [10]) (by kernel_rfl) (by simp) (AllReadyIn.cons rfl (fun K hK => ?_) AllReadyIn.nil)
              go_simp
              refine hK _ _ ?_
              clear hK K
              refine wpAnyIn_done (by kernel_rfl) ?_ _
              gi_wp2
              exact VarX.good h hv x hwr hbyte hI1
            · go_simp
              refine hK _ _ ?_
              clear hK K
              refine wpAnyIn_take (i := 2) (v := ?_) rfl rfl (by kernel_rfl) (by kernel_rfl) (by kernel_rfl) (fun _ _ _ h => h) ⟨Or.inl ⟨by rfl, ?y2⟩, fun _ => rfl⟩ ?_
              case y2 => intro w; go_simp; rfl
              refine wpAnyIn_take (i := 3) (v := ?_) rfl rfl (by kernel_rfl) (by kernel_rfl) (by kernel_rfl) (fun _ _ _ h => h) ⟨Or.inl ⟨by rfl, ?y3⟩, fun _ => rfl⟩ ?_
              case y3 => intro w; go_simp; rfl
              refine wpAnyIn_ready (rs := [0, 4]) (by kernel_rfl) (by simp) (AllReadyIn.cons rfl (fun K hK => ?_) (AllReadyIn.cons rfl (fun K hK => ?_) AllReadyIn.nil))
              · go_simp
                refine hK _ _ ?_
                clear hK K
                refine wpAnyIn_ready (rs := [4]) (by kernel_rfl) (by simp) (AllReadyIn.cons rfl (fun K hK => ?_) AllReadyIn.nil)
                go_simp
                refine hK _ _ ?_
                clear hK K
                refine wpAnyIn_take (i := 7) (v := ?_) rfl rfl (by kernel_rfl) (by kernel_rfl) (by kernel_rfl) (fun _ _ _ h => h) ⟨Or.inl ⟨by rfl, ?y7⟩, fun _ => rfl⟩ ?_
                case y7 => intro w; go_simp; rfl
                refine wpAnyIn_take (i := 8) (v := ?_) rfl rfl (by kernel_rfl) (by kernel_rfl) (by kernel_rfl) (fun _ _ _ h => h) ⟨Or.inl ⟨by rfl, ?y8⟩, fun _ => rfl⟩ ?_
                case y8 => intro w; go_simp; rfl
                refine wpAnyIn_take (i := 9) (v := ?_) rfl rfl (by kernel_rfl) (by kernel_rfl) (by kernel_rfl) (fun _ _ _ h => h) ⟨Or.inl ⟨by rfl, ?y9⟩, fun _ => rfl⟩ ?_
                case y9 => intro w; go_simp; rfl
                refine wpAnyIn_ready (rs := [10]) (by kernel_rfl) (by simp) (AllReadyIn.cons rfl (fun K hK => ?_) AllReadyIn.nil)
                go_simp
                refine hK _ _ ?_
                clear hK K
                refine wpAnyIn_done (by kernel_rfl) ?_ _
                gi_wp2
                exact VarX.good h hv x hwr hbyte hI1
              · go_simp
                refine hK _ _ ?_
                clear hK K
                refine wpAnyIn_take (i := 7) (v := ?_) rfl rfl (by kernel_rfl) (by kernel_rfl) (by kernel_rfl) (fun _ _ _ h => h) ⟨Or.inl ⟨by rfl, ?y7⟩, fun _ => rfl⟩ ?_
                case y7 => intro w; go_simp; rfl
                refine wpAnyIn_ready (rs := [0]) (by kernel_rfl) (by simp) (AllReadyIn.cons rfl (fun K hK => ?_) AllReadyIn.nil)
                go_simp
                refine hK _ _ ?_
                clear hK K
                refine wpAnyIn_take (i := 8) (v := ?_) rfl rfl (by kernel_rfl) (by kernel_rfl) (by kernel_rfl) (fun _ _ _ h => h) ⟨Or.inl ⟨by rfl, ?y8⟩, fun _ => rfl⟩ ?_
                case y8 => intro w; go_simp; rfl
                refine wpAnyIn_take (i := 9) (v := ?_) rfl rfl (by kernel_rfl) (by kernel_rfl) (by kernel_rfl) (fun _ _ _ h => h) ⟨Or.inl ⟨by rfl, ?y9⟩, fun _ => rfl⟩ ?_
                case y9 => intro w; go_simp; rfl
                refine wpAnyIn_ready (rs := [10]) (by kernel_rfl) (by simp) (AllReadyIn.cons rfl (fun K hK => ?_) AllReadyIn.nil)
                go_simp
                refine hK _ _ ?_
                clear hK K
                refine wpAnyIn_done (by kernel_rfl) ?_ _
                gi_wp2
                exact VarX.good h hv x hwr hbyte hI1
          · have hbt : decide (l[x.val].toNat < 128) = false := by simpa using hbyte
            gi_wp2 <;> exact hI1.go hv hwr hbyte
        · have h0a : decide (0 < x.val) = false := by simpa using h0
          have h0b : decide ((0 : Int) < (x.val : Int)) = false := by simp; omega
          have H0 := Lib.hid h0
          clear h0
          gi_wp2_with fail
          refine wpIn_region_round rfl hmix (by kernel_rfl) ?_
          refine wpAnyIn_take (i := 1) (v := ?_) rfl rfl (by kernel_rfl) (by kernel_rfl) (by kernel_rfl) (fun _ _ _ h => h) ⟨Or.inl ⟨by rfl, ?y1⟩, fun _ => rfl⟩ ?_
          case y1 => intro w; go_simp; rfl
          refine wpAnyIn_take (i := 2) (v := ?_) rfl rfl (by kernel_rfl) (by kernel_rfl) (by kernel_rfl) (fun _ _ _ h => h) ⟨Or.inl ⟨by rfl, ?y2⟩, fun _ => rfl⟩ ?_
          case y2 => intro w; go_simp; rfl
          refine wpAnyIn_take (i := 3) (v := ?_) rfl rfl (by kernel_rfl) (by kernel_rfl) (by kernel_rfl) (fun _ _ _ h => h) ⟨Or.inl ⟨by rfl, ?y3⟩, fun _ => rfl⟩ ?_
          case y3 => intro w; go_simp; rfl
          refine wpAnyIn_take (i := 4) (v := ?_) rfl rfl (by kernel_rfl) (by kernel_rfl) (by kernel_rfl) (fun _ _ _ h => h) ⟨Or.inl ⟨by rfl, ?y4⟩, fun _ => rfl⟩ ?_
          case y4 => intro w; go_simp; rfl
          refine wpAnyIn_take (i := 5) (v := ?_) rfl rfl (by kernel_rfl) (by kernel_rfl) (by kernel_rfl) (fun _ _ _ h => h) ⟨Or.inl ⟨by rfl, ?y5⟩, fun _ => rfl⟩ ?_
          case y5 => intro w; go_simp; rfl
          refine wpAnyIn_take (i := 6) (v := ?_) rfl rfl (by kernel_rfl) (by kernel_rfl) (by kernel_rfl) (fun _ _ _ h => h) ⟨Or.inl ⟨by rfl, ?y6⟩, fun _ => rfl⟩ ?_
          case y6 => intro w; go_simp; rfl
          refine wpAnyIn_ready (rs := [0]) (by kernel_rfl) (by simp) (AllReadyIn.cons rfl (fun K hK => ?_) AllReadyIn.nil)
          go_simp
          refine hK _ _ ?_
          clear hK K
          refine wpAnyIn_ready (rs := [7]) (by kernel_rfl) (by simp) (AllReadyIn.cons rfl (fun K hK => ?_) AllReadyIn.nil)
          go_simp
          refine hK _ _ ?_
          clear hK K
          refine wpAnyIn_ready (rs := [8]) (by kernel_rfl) (by simp) (AllReadyIn.cons rfl (fun K hK => ?_) AllReadyIn.nil)
          go_simp
          refine hK _ _ ?_
          clear hK K
          refine wpAnyIn_done (by kernel_rfl) ?_ _
          obtain ⟨W1, hW1⟩ : ∃ W1, (W.setCell ⟨w.heap.size + 1 + 1, 0, none⟩ (.int .u32 (accN l (pre ++ [x])))).drew = W1 := ⟨_, rfl⟩
          have hI1 := VarJ.step h hv x
          rw [hW1] at hI1 ⊢
          clear hW1 cr cres fres cn fn c0 f0
          have cr := hI1.r.cell 0 rfl
          have cres := hI1.res.cell 0 rfl
          have fres := hI1.res.free 0
          have cn := hI1.n.cell 0 rfl
          have c0 := hI1.rd.c0
          have f0 := hI1.rd.blk.free 0
          by_cases hbyte : l[x.val].toNat < 128
          · have hbt : decide (l[x.val].toNat < 128) = true := by simpa using hbyte
            gi_wp2_with fail
            refine wpIn_region_round rfl hmix (by kernel_rfl) ?_
            refine wpAnyIn_take (i := 5) (v := ?_) rfl rfl (by kernel_rfl) (by kernel_rfl) (by kernel_rfl) (fun _ _ _ h => h) ⟨Or.inl ⟨by rfl, ?y5⟩, fun _ => rfl⟩ ?_
            case y5 => intro w; go_simp; rfl
            refine wpAnyIn_take (i := 6) (v := ?_) rfl rfl (by kernel_rfl) (by kernel_rfl) (by kernel_rfl) (fun _ _ _ h => h) ⟨Or.inl ⟨by rfl, ?y6⟩, fun _ => rfl⟩ ?_
            case y6 => intro w; go_simp; rfl
            refine wpAnyIn_ready (rs := [0, 1]) (by kernel_rfl) (by simp) (AllReadyIn.cons rfl (fun K hK => ?_) (AllReadyIn.cons rfl (fun K hK => ?_) AllReadyIn.nil))
            · go_simp
              refine hK _ _ ?_
              clear hK K
              refine wpAnyIn_ready (rs := [1]) (by kernel_rfl) (by simp) (AllReadyIn.cons rfl (fun K hK => ?_) AllReadyIn.nil)
              go_simp
              refine hK _ _ ?_
              clear hK K
              refine wpAnyIn_take (i := 2) (v := ?_) rfl rfl (by kernel_rfl) (by kernel_rfl) (by kernel_rfl) (fun _ _ _ h => h) ⟨Or.inl ⟨by rfl, ?y2⟩, fun _ => rfl⟩ ?_
              case y2 => intro w; go_simp; rfl
              refine wpAnyIn_take (i := 3) (v := ?_) rfl rfl (by kernel_rfl) (by kernel_rfl) (by kernel_rfl) (fun _ _ _ h => h) ⟨Or.inl ⟨by rfl, ?y3⟩, fun _ => rfl⟩ ?_
              case y3 => intro w; go_simp; rfl
              refine wpAnyIn_ready (rs := [4]) (by kernel_rfl) (by simp) (AllReadyIn.cons rfl (fun K hK => ?_) AllReadyIn.nil)
              go_simp
              refine hK _ _ ?_
              clear hK K
              refine wpAnyIn_take (i := 7) (v := ?_) rfl rfl (by kernel_rfl) (by kernel_rfl) (by kernel_rfl) (fun _ _ _ h => h) ⟨Or.inl ⟨by rfl, ?y7⟩, fun _ => rfl⟩ ?_
              case y7 => intro w; go_simp; rfl
              refine wpAnyIn_take (i := 8) (v := ?_) rfl rfl (by kernel_rfl) (by kernel_rfl) (by kernel_rfl) (fun _ _ _ h => h) ⟨Or.inl ⟨by rfl, ?y8⟩, fun _ => rfl⟩ ?_
              case y8 => intro w; go_simp; rfl
              refine wpAnyIn_take (i := 9) (v := ?_) rfl rfl (by kernel_rfl) (by kernel_rfl) (by kernel_rfl) (fun _ _ _ h => h) ⟨Or.inl ⟨by rfl, ?y9⟩, fun _ => rfl⟩ ?_
              case y9 => intro w; go_simp; rfl
              refine wpAnyIn_ready (rs := [10]) (by kernel_rfl) (by simp) (AllReadyIn.cons rfl (fun K hK => ?_) AllReadyIn.nil)
              go_simp
              refine hK _ _ ?_
              clear hK K
              refine wpAnyIn_done (by kernel_rfl) ?_ _
              gi_wp2
              exact VarX.good h hv x hwr hbyte hI1
            · go_simp
              refine hK _ _ ?_
              clear hK K
              refine wpAnyIn_take (i := 2) (v := ?_) rfl rfl (by kernel_rfl) (by kernel_rfl) (by kernel_rfl) (fun _ _ _ h => h) ⟨Or.inl ⟨by rfl, ?y2⟩, fun _ => rfl⟩ ?_
              case y2 => intro w; go_simp; rfl
              refine wpAnyIn_take (i := 3) (v := ?_) rfl rfl (by kernel_rfl) (by kernel_rfl) (by kernel_rfl) (fun _ _ _ h => h) ⟨Or.inl ⟨by rfl, ?y3⟩, fun _ => rfl⟩ ?_
              case y3 => intro w; go_simp; rfl
              refine wpAnyIn_ready (rs := [0, 4]) (by kernel_rfl) (by simp) (AllReadyIn.cons rfl (fun K hK => ?_) (AllReadyIn.cons rfl (fun K hK => ?_) AllReadyIn.nil))
              · go_simp
                refine hK _ _ ?_
                clear hK K
                refine wpAnyIn_ready (rs := [4]) (by kernel_rfl) (by simp) (AllReadyIn.cons rfl (fun K hK => ?_) AllReadyIn.nil)
                go_simp
                refine hK _ _ ?_
                clear hK K
                refine wpAnyIn_take (i := 7) (v := ?_) rfl rfl (by kernel_rfl) (by kernel_rfl) (by kernel_rfl) (fun _ _ _ h => h) ⟨Or.inl ⟨by rfl, ?y7⟩, fun _ => rfl⟩ ?_
                case y7 => intro w; go_simp; rfl
                refine wpAnyIn_take (i := 8) (v := ?_) rfl rfl (by kernel_rfl) (by kernel_rfl) (by kernel_rfl) (fun _ _ _ h => h) ⟨Or.inl ⟨by rfl, ?y8⟩, fun _ => rfl⟩ ?_
                case y8 => intro w; go_simp; rfl
                refine wpAnyIn_take (i := 9) (v := ?_) rfl rfl (by kernel_rfl) (by kernel_rfl) (by kernel_rfl) (fun _ _ _ h => h) ⟨Or.inl ⟨by rfl, ?y9⟩, fun _ => rfl⟩ ?_
                case y9 => intro w; go_simp; rfl
                refine wpAnyIn_ready (rs := [10]) (by kernel_rfl) (by simp) (AllReadyIn.cons rfl (fun K hK => ?_) AllReadyIn.nil)
                go_simp
                refine hK _ _ ?_
                clear hK K
                refine wpAnyIn_done (by kernel_rfl) ?_ _
                gi_wp2
                exact VarX.good h hv x hwr hbyte hI1
              · go_simp
                refine hK _ _ ?_
                clear hK K
                refine wpAnyIn_take (i := 7) (v := ?_) rfl rfl (by kernel_rfl) (by kernel_rfl) (by kernel_rfl) (fun _ _ _ h => h) ⟨Or.inl ⟨by rfl, ?y7⟩, fun _ => rfl⟩ ?_
                case y7 => intro w; go_simp; rfl
                refine wpAnyIn_ready (rs := [0]) (by kernel_rfl) (by simp) (AllReadyIn.cons rfl (fun K hK => ?_) AllReadyIn.nil)
                go_simp
                refine hK _ _ ?_
                clear hK K
                refine wpAnyIn_take (i := 8) (v := ?_) rfl rfl (by kernel_rfl) (by kernel_rfl) (by kernel_rfl) (fun _ _ _ h => h) ⟨Or.inl ⟨by rfl, ?y8⟩, fun _ => rfl⟩ ?_
                case y8 => intro w; go_simp; rfl
                refine wpAnyIn_take (i := 9) (v := ?_) rfl rfl (by kernel_rfl) (by kernel_rfl) (by kernel_rfl) (fun _ _ _ h => h) ⟨Or.inl ⟨by rfl, ?y9⟩, fun _ => rfl⟩ ?_
                case y9 => intro w; go_simp; rfl
                refine wpAnyIn_ready (rs := [10]) (by kernel_rfl) (by simp) (AllReadyIn.cons rfl (fun K hK => ?_) AllReadyIn.nil)
                go_simp
                refine hK _ _ ?_
                clear hK K
                refine wpAnyIn_done (by kernel_rfl) ?_ _
                gi_wp2
                exact VarX.good h hv x hwr hbyte hI1
          · have hbt : decide (l[x.val].toNat < 128) = false := by simpa using hbyte
            gi_wp2 <;> exact hI1.go hv hwr hbyte
  case done =>
    rintro D xs W hD hS hv hK
    have hlt := h.lt
    have hvar := Lib.hid (var_done hS hv.on)
    have cr : W.cell? ⟨w.heap.size, 0, none⟩ = some (.pointer (some ⟨b, 0, none⟩)) := hv.r.cell 0 rfl
    have hDlt := (Array.getElem?_eq_some_iff.1 hK).1
    have hD2 : w.heap.size + 1 < D := by simp at hD; omega
    have fails : CallsIn Fence.wide 8 Try.prog 112 #[.pointer (some ⟨b, 0, none⟩), .int .i64 10] W fun e W1 => e = .returned (.tuple #[]) ∧ Rd W1 b [] 10 ∧ Frm (· = b) W W1 ∧ W1.cell? ⟨w.heap.size + 1, 0, none⟩ = some (.int .u32 0) ∧ W1.frozen? ⟨w.heap.size + 1, 0, none⟩ = false ∧ W1.heap[D]? = some (.deferred (some [])) ∧ Blk W1 (w.heap.size + 1) 22 #[.int .u32 0] :=
      (callsIn_wide.2 (fail_first b l 10 _ hv.rd (by omega))).mono fun e W1 ⟨h1, h2, h3⟩ => by
        have hres := hv.res.keep h3 (by omega)
        exact ⟨h1, h2, h3, hres.cell 0 rfl, hres.free 0, (h3.block D hDlt (by omega)).trans hK, hres⟩
    gi_wp2_with fail
    refine ⟨trivial, fails.mono ?_⟩
    rintro e W1 ⟨rfl, h1, h2, c1, f1, hK1, hres⟩
    gi_wp2
    have hK' := (KeepsOthers.setCell W1 ⟨w.heap.size + 1, 0, none⟩ (.int .u32 0)).same D _ hK1 rfl
    refine ⟨by simp, .inl ⟨_, _, rfl, run_takeDeferred hK', ?_⟩⟩
    have hrow : ∀ r, some D = some r → ∃ o : Obj, (W1.setCell ⟨w.heap.size + 1, 0, none⟩ (.int .u32 0)).heap[r]? = some o ∧ o.isCells = false := fun r e => by cases e; exact ⟨_, hK', rfl⟩
    have hg := grownBy_putObj' (W1.setCell ⟨w.heap.size + 1, 0, none⟩ (.int .u32 0)) D (.deferred none)
    have hb5 := (hres.set 0 (.int .u32 0)).turned hg hrow
    have hc5 := hb5.cell 0 rfl
    have hr5 : Rd (W1.setCell ⟨w.heap.size + 1, 0, none⟩ (.int .u32 0)) b [] 10 := ⟨h1.blk.other (by simp; omega) _, h1.len, h1.err⟩
    rw [hvar.out]
    refine ⟨.int .u32 0, ?_, rfl, hr5.turned hg hrow, ?_⟩
    · simp [results, Try.f94, go_sem, hc5]
    · exact ((((hv.frm.mono (Y := (· = b)) (fun _ _ h => h.elim)).next h2 (fun _ _ h => h)).setCell (p := ⟨w.heap.size + 1, 0, none⟩) (fun h => absurd h (by simp)) _)).grown hg (fun k hk e => by cases e; omega)
  case stop =>
    rintro D c pre W hD hSp ⟨rfl, hx⟩ hK
    have hlt := h.lt
    have hD2 : w.heap.size + 1 < D := by simp at hD; omega
    obtain ⟨hr, hres⟩ := var_stop hSp hx
    gi_wp2
    refine ⟨by simp, .inl ⟨_, _, rfl, run_takeDeferred hK, ?_⟩⟩
    have hrow : ∀ r, some D = some r → ∃ o : Obj, W.heap[r]? = some o ∧ o.isCells = false := fun r e => by cases e; exact ⟨_, hK, rfl⟩
    have hg := grownBy_putObj' W D (.deferred none)
    have hb5 := hres.turned hg hrow
    have hc5 := hb5.cell 0 rfl
    refine ⟨.int .u32 (varAt 0 0 l).1, ?_, rfl, hr.turned hg hrow, hx.frm.grown hg (fun k hk e => by cases e; omega)⟩
    simp [results, Try.f94, go_sem, hc5]

/-- A reader that is torn, between two rounds. -/
structure VarE (w : World) (b e : Nat) (W : World) : Prop where
  rd : Rd W b [] e
  r : Blk W w.heap.size 146 #[.pointer (some ⟨b, 0, none⟩)]
  res : Blk W (w.heap.size + 1) 22 #[.int .u32 0]
  frm : Frm (fun _ => False) w W
theorem VarE.own {α : Type} (w : World) (b e : Nat) (B : Nat) (hB : w.heap.size ≤ B) : OwnFrom (β := α) B (fun _ => VarE w b e) := fun _ _ _ _ h hg hr =>
  have hr2 := fun r e => (hr r e).2
  ⟨h.rd.turned hg hr2, h.r.turned hg hr2, h.res.turned hg hr2, h.frm.turned hB hg hr⟩

set_option maxRecDepth 100000 in
set_option maxHeartbeats 1000000 in
theorem var_empty_in (b e : Nat) (w : World) (h : Rd w b [] e) (he : e ≠ 0) :
    CallsIn Fence.wide 9 Try.prog 94 #[.pointer (some ⟨b, 0, none⟩)] w fun r w' => r = .returned (.int .u32 0) ∧ Rd w' b [] e ∧ Frm (· = b) w w' := by
  have c0 : (((w.alloc (.cells #[.pointer (some ⟨b, 0, none⟩)] 146)).alloc (.cells #[.int .u32 0] 22)).alloc (.cells #[.int .u32 0] 22)).cell? ⟨b, 0, none⟩ = some (.string (bs [])) :=
    (((h.blk.old _).old _).old _).cell 0 rfl
  refine callsIn_of_wp_marks Try.func94 rfl trivial ?_ rfl
  simp only [Try.ntmps94, List.size_toArray, List.length_cons, List.length_nil, Nat.reduceAdd, Nat.reduceSub, Array.replicate_succ, Array.replicate_zero, List.push_toArray, List.append_toArray, List.nil_append, List.cons_append]
  gi_wp2_with (refine ⟨trivial, ?_⟩; gi_at_call 111; refine (callsIn_wide.2 (coded_any [] _)).mono ?_; rintro e w' ⟨rfl, rfl⟩)
  clear c0
  have hBn := Blk.alloc (((w.alloc (.cells #[.pointer (some ⟨b, 0, none⟩)] 146)).alloc (.cells #[.int .u32 0] 22)).alloc (.cells #[.int .u32 0] 22)) 9 #[.string (bs [])]
  have hI0 : VarE w b e ((((w.alloc (.cells #[.pointer (some ⟨b, 0, none⟩)] 146)).alloc (.cells #[.int .u32 0] 22)).alloc (.cells #[.int .u32 0] 22)).alloc (.cells #[.string (bs [])] 9)) :=
    ⟨⟨(((h.blk.old _).old _).old _).old _, h.len, h.err⟩, (((Blk.alloc w _ _).old _).old _).old _,
      by have := ((Blk.alloc (w.alloc (.cells #[.pointer (some ⟨b, 0, none⟩)] 146)) 22 #[.int .u32 0]).old (.cells #[.int .u32 0] 22)).old (.cells #[.string (bs [])] 9); simpa using this,
      (((((Frm.refl _ w).alloc _).alloc _).alloc _).alloc _)⟩
  refine wpIn_rangeFunc_ownF rfl (by omega) (gf := 122) (lb := #[.pointer (some ⟨w.heap.size + 1 + 1 + 1, 0, none⟩)]) rfl trivial (enters_of Try.func122 (by kernel_rfl) rfl)
    (coded_stops (w.heap.size + 1 + 1 + 1) [] _ (by simpa using hBn) h.len) (fun h1 h2 => h2.trans h1) (fun W j o o' hj _ _ _ => World.putObj_heap_other (by simp at hj; omega)) (Below.refl _ _) (fun _ => rfl)
    (fun _ => VarE w b e) (fun _ _ _ => False) (VarE.own w b e _ (by simp; omega)) (fun _ _ _ _ _ h _ _ => h) hI0
    (fun x => x.elim0) ?assign ?body ?done ?stop
  case assign => exact fun l0 x => x.elim0
  case body => exact fun l0 pre x => x.elim0
  case done =>
    rintro D xs W hD hS hv hK
    have hlt := h.lt
    have cr : W.cell? ⟨w.heap.size, 0, none⟩ = some (.pointer (some ⟨b, 0, none⟩)) := hv.r.cell 0 rfl
    have c1 : W.cell? ⟨w.heap.size + 1, 0, none⟩ = some (.int .u32 0) := hv.res.cell 0 rfl
    have f1 := hv.res.free 0
    have hD2 : w.heap.size + 1 < D := by simp at hD; omega
    gi_wp2_with (refine ⟨trivial, ?_⟩; gi_at_call 112; refine (callsIn_wide.2 (fail_later b [] 10 e _ hv.rd he)).mono ?_; rintro e W1 ⟨rfl, rfl⟩)
    have hK' := (KeepsOthers.setCell W ⟨w.heap.size + 1, 0, none⟩ (.int .u32 0)).same D _ hK rfl
    refine ⟨by simp, .inl ⟨_, _, rfl, run_takeDeferred hK', ?_⟩⟩
    have hrow : ∀ r, some D = some r → ∃ o : Obj, (W.setCell ⟨w.heap.size + 1, 0, none⟩ (.int .u32 0)).heap[r]? = some o ∧ o.isCells = false := fun r e => by cases e; exact ⟨_, hK', rfl⟩
    have hg := grownBy_putObj' (W.setCell ⟨w.heap.size + 1, 0, none⟩ (.int .u32 0)) D (.deferred none)
    have hb5 := (hv.res.set 0 (.int .u32 0)).turned hg hrow
    have hc5 := hb5.cell 0 rfl
    have hr5 : Rd (W.setCell ⟨w.heap.size + 1, 0, none⟩ (.int .u32 0)) b [] e := ⟨hv.rd.blk.other (by simp; omega) _, hv.rd.len, hv.rd.err⟩
    refine ⟨.int .u32 0, ?_, rfl, hr5.turned hg hrow, ?_⟩
    · simp [results, Try.f94, go_sem, hc5]
    · exact (((hv.frm.mono (Y := (· = b)) (fun _ _ h => h.elim))).setCell (p := ⟨w.heap.size + 1, 0, none⟩) (fun h => absurd h (by simp)) _).grown hg (fun k hk e => by cases e; omega)
  case stop =>
    rintro D c pre W _ _ h _
    exact h.elim

/-- What a reader must keep to: with an error nothing is left. -/
theorem var_any (b : Nat) (l : List UInt8) (e : Nat) (w : World) (h : Rd w b l e) (he : e ≠ 0 → l = []) :
    Calls Try.prog 94 #[.pointer (some ⟨b, 0, none⟩)] w fun r w' => r = .returned (.int .u32 (varS l e).1) ∧ Rd w' b (varS l e).2.1 (varS l e).2.2 ∧ Frm (· = b) w w' := by
  unfold varS
  by_cases h0 : e = 0
  · subst h0
    exact callsIn_wide.1 (var_in b l w h)
  · obtain rfl := he h0
    rw [if_neg h0]
    exact callsIn_wide.1 (var_empty_in b e w h h0)
end Go.Proofs.Ytmohegglclgcbaa
