/- What the reading of a var number does. -/
import Derived.Test.YtlajfmpgodcbmaaCodecT
import Derived.Test.YtlajfmpgodcbmaaRound
import Derived.RangeFuncNested
import Derived.RangeFuncBound
import Derived.RangeFuncCalls
import Derived.RangeFuncLeaves
import Derived.Shelf.Abstract
import Derived.Shelf.RegionOpen
import Derived.OwnWalkIn
import Derived.TacticsInMore
import Derived.LoopNIn
import Derived.LoopIn
namespace Go.Proofs.Ytlajfmpgodcbmaa
open Go.RowKit Go.Shelf
attribute [local go_sem] Oper.semAt_some

theorem Blk.keepAt {w w' : World} {b : Nat} {t : TypeId} {cs : Array Value} (h : Blk w b t cs) (e : w'.heap[b]? = w.heap[b]?) : Blk w' b t cs := e.trans h

/-- The places of a text, from the first one on. -/
def upto (l : List UInt8) (k : Nat) : List (Fin l.length) := (List.finRange l.length).take k
theorem upto_zero (l : List UInt8) : upto l 0 = [] := by simp [upto]
theorem upto_succ (l : List UInt8) (k : Nat) (h : k < l.length) : upto l (k + 1) = upto l k ++ [⟨k, h⟩] := by
  unfold upto
  rw [List.take_succ_eq_append_getElem (by simpa using h)]
  simp
theorem upto_len (l : List UInt8) (k : Nat) (h : k ≤ l.length) : (upto l k).length = k := by simp [upto]; omega
/-- The first k bytes all have 128 added. -/
def cont (l : List UInt8) (k : Nat) : Prop := ∀ j, (h : j < l.length) → j < k → 128 ≤ l[j].toNat
theorem cont_succ {l : List UInt8} {k : Nat} (h : cont l k) (hk : k < l.length) (h1 : 128 ≤ l[k].toNat) : cont l (k + 1) := by
  intro j hj hjk
  by_cases e : j = k
  · subst e; exact h1
  · exact h j hj (by omega)
abbrev vEnc (l : List UInt8) (i : Fin l.length) : Array Value := #[.int .i64 i.val, .int .u8 l[i.val].toNat]
def vAll (l : List UInt8) (xs : List (Fin l.length)) : Prop := ∃ k, xs = upto l k ∧ k ≤ l.length ∧ ((k = l.length ∧ cont l k) ∨ ∃ j, k = j + 1 ∧ cont l j ∧ ∃ h : j < l.length, l[j].toNat < 128)
def vPart (l : List UInt8) (xs : List (Fin l.length)) : Prop := ∃ j, xs = upto l (j + 1) ∧ j < l.length ∧ cont l j

/-- What n holds behind these bytes. -/
def accN (l : List UInt8) (xs : List (Fin l.length)) : Nat := xs.foldl (fun m x => m ||| ((l[x.val].toNat &&& 127) * 2 ^ min (7 * x.val) 32 % 4294967296)) 0
/-- The digit of a byte, at its place. -/
def digN (l : List UInt8) (x : Fin l.length) : Nat := (l[x.val].toNat &&& 127) * 2 ^ min (7 * x.val) 32 % 4294967296
theorem accN_snoc (l : List UInt8) (xs : List (Fin l.length)) (x : Fin l.length) : accN l (xs ++ [x]) = accN l xs ||| digN l x := by simp [accN, digN]
theorem accN_lt (l : List UInt8) (n : Nat) : ∀ xs : List (Fin l.length), xs.length = n → accN l xs < 2 ^ 32 := by
  induction n with
  | zero => intro xs h; obtain rfl : xs = [] := List.eq_nil_of_length_eq_zero h; exact Nat.two_pow_pos 32
  | succ n ih =>
    intro xs h
    rcases List.eq_nil_or_concat xs with rfl | ⟨ys, x, rfl⟩
    · cases h
    · rw [List.concat_eq_append, accN_snoc]
      simp only [List.concat_eq_append, List.length_append, List.length_cons, List.length_nil] at h
      exact Nat.or_lt_two_pow (ih ys (by omega)) (by unfold digN; omega)
theorem dig_not (b : UInt8) : bits BinOp.andNot IntKind.u8 (b.toNat : Int) 128 = ((b.toNat &&& 127 : Nat) : Int) := u8_andNot_nat b.toNat 128 b.toNat_lt (by decide)
theorem dig_u32 (b : UInt8) : IntKind.u32.wrap ((b.toNat &&& 127 : Nat) : Int) = ((b.toNat &&& 127 : Nat) : Int) :=
  IntWalk.u32_in _ (by have := Nat.and_le_right (n := b.toNat) (m := 127); omega)
theorem dig_shl (l : List UInt8) (x : Fin l.length) : Op.shift .shl .u32 ((l[x.val].toNat &&& 127 : Nat) : Int) .i64 (7 * (x.val : Int)) = pure (.int .u32 (digN l x : Nat)) := by
  unfold Op.shift
  rw [if_neg (by omega)]
  simp only [IntKind.wrap_u32']
  unfold digN
  have : (7 * (x.val : Int)).toNat = 7 * x.val := by omega
  rw [this]
  simp [IntKind.bits]
theorem dig_wrap (l : List UInt8) (x : Fin l.length) (hx : x.val ≤ 4) : IntKind.u32.wrap (((l[x.val].toNat &&& 127 : Nat) : Int) * 2 ^ (7 * (x.val : Int)).toNat) = ((digN l x : Nat) : Int) := by
  rw [IntKind.wrap_u32']
  unfold digN
  have h1 : (7 * (x.val : Int)).toNat = 7 * x.val := by omega
  have h2 : min (7 * x.val) 32 = 7 * x.val := by omega
  rw [h1, h2]
  simp
theorem dig_or (l : List UInt8) (xs : List (Fin l.length)) (x : Fin l.length) : bits BinOp.or IntKind.u32 (accN l xs : Nat) (digN l x : Nat) = ((accN l (xs ++ [x]) : Nat) : Int) := by
  rw [accN_snoc, u32_or_nat _ _ (accN_lt l _ xs rfl) (by unfold digN; omega)]

/-- The loop goes on behind this byte. -/
def goesOn (l : List UInt8) (x : Fin l.length) : Prop := 128 ≤ l[x.val].toNat ∧ x.val ≠ 4
def wrong (l : List UInt8) (x : Fin l.length) : Prop := (x.val = 4 ∧ 15 < l[x.val].toNat) ∨ (0 < x.val ∧ l[x.val].toNat = 0)
/-- Between two rounds. -/
structure VarI (w : World) (b : Nat) (l : List UInt8) (pre : List (Fin l.length)) (W : World) : Prop where
  on : ∀ x ∈ pre, goesOn l x
  rd : Rd W b l 0
  r : Blk W w.heap.size 46 #[.pointer (some ⟨b, 0, none⟩)]
  res : Blk W (w.heap.size + 1) 35 #[.int .u32 0]
  n : Blk W (w.heap.size + 1 + 1) 35 #[.int .u32 (accN l pre)]
  frm : Frm (fun _ => False) w W
/-- Where a round has left. -/
structure VarX (w : World) (b : Nat) (l : List UInt8) (pre : List (Fin l.length)) (W : World) : Prop where
  out : ∃ q x, pre = q ++ [x] ∧ (∀ y ∈ q, goesOn l y) ∧ ((wrong l x ∧ Rd W b [] 4 ∧ Blk W (w.heap.size + 1) 35 #[.int .u32 0]) ∨
    (¬ wrong l x ∧ l[x.val].toNat < 128 ∧ Rd W b (l.drop (x.val + 1)) 0 ∧ Blk W (w.heap.size + 1) 35 #[.int .u32 (accN l pre)]))
  frm : Frm (· = b) w W

theorem Blk.turned {W W' : World} {b : Nat} {t : TypeId} {cs : Array Value} {row : Option Nat} (h : Blk W b t cs) (hg : W.grownBy W' row) (hr : ∀ r, row = some r → ∃ o : Obj, W.heap[r]? = some o ∧ o.isCells = false) : Blk W' b t cs := by
  refine (hg.block b h.lt fun e => ?_).trans h
  obtain ⟨o, ho, hc⟩ := hr b e.symm
  rw [h] at ho
  cases ho
  cases hc
theorem Rd.turned {W W' : World} {b : Nat} {l : List UInt8} {e : Nat} {row : Option Nat} (h : Rd W b l e) (hg : W.grownBy W' row) (hr : ∀ r, row = some r → ∃ o : Obj, W.heap[r]? = some o ∧ o.isCells = false) : Rd W' b l e := ⟨h.blk.turned hg hr, h.len, h.err⟩
theorem Frm.turned {X : Nat → Prop} {w W W' : World} {B : Nat} {row : Option Nat} (h : Frm X w W) (hB : w.heap.size ≤ B) (hg : W.grownBy W' row) (hr : ∀ r, row = some r → B ≤ r ∧ ∃ o : Obj, W.heap[r]? = some o ∧ o.isCells = false) : Frm X w W' :=
  h.grown hg fun k hk e => by have := (hr k e).1; omega
theorem VarI.own (w : World) (b : Nat) (l : List UInt8) (B : Nat) (hB : w.heap.size ≤ B) : OwnFrom B (VarI w b l) := fun _ _ _ _ h hg hr =>
  have hr2 := fun r e => (hr r e).2
  ⟨h.on, h.rd.turned hg hr2, h.r.turned hg hr2, h.res.turned hg hr2, h.n.turned hg hr2, h.frm.turned hB hg hr⟩
theorem VarX.own (w : World) (b : Nat) (l : List UInt8) (B : Nat) (hB : w.heap.size ≤ B) : OwnFrom B (VarX w b l) := fun pre W W' row h hg hr => by
  have hr2 := fun r e => (hr r e).2
  refine ⟨?_, h.frm.turned hB hg hr⟩
  obtain ⟨q, x, e, hq, h1 | h1⟩ := h.out
  · exact ⟨q, x, e, hq, .inl ⟨h1.1, h1.2.1.turned hg hr2, h1.2.2.turned hg hr2⟩⟩
  · exact ⟨q, x, e, hq, .inr ⟨h1.1, h1.2.1, h1.2.2.1.turned hg hr2, h1.2.2.2.turned hg hr2⟩⟩

theorem Frm.others {X : Nat → Prop} {w w' : World} (h : Frm X w w') (hx : ∀ k o, X k → w.heap[k]? = some o → o.isCells = true) : KeepsOthers w w' :=
  ⟨h.size, fun k o hk ho => by
    refine (h.block k (Array.getElem?_eq_some_iff.1 hk).1 fun hX => ?_).trans hk
    rw [hx k o hX hk] at ho; cases ho⟩
theorem Blk.isCells {w : World} {b : Nat} {t : TypeId} {cs : Array Value} (h : Blk w b t cs) : ∀ k o, k = b → w.heap[k]? = some o → o.isCells = true := by
  rintro k o rfl ho
  rw [h] at ho
  cases ho
  rfl
theorem VarX.fail {w W W1 : World} {b : Nat} {l : List UInt8} {pre : List (Fin l.length)} (h : Rd w b l 0) (hv : VarI w b l pre W) (x : Fin l.length) (hw : wrong l x) (h1 : Rd W1 b [] 4) (h2 : Frm (· = b) W W1) :
    KeepsOthers W (W1.setCell ⟨w.heap.size + 1, 0, none⟩ (.int .u32 0)) ∧ Code.ret = Code.ret ∧ VarX w b l (pre ++ [x]) (W1.setCell ⟨w.heap.size + 1, 0, none⟩ (.int .u32 0)) := by
  have hlt := h.lt
  have hres : Blk W1 (w.heap.size + 1) 35 #[.int .u32 0] := hv.res.keep h2 (by omega)
  refine ⟨(h2.others hv.rd.blk.isCells).trans (KeepsOthers.setCell _ _ _), rfl, ⟨⟨pre, x, rfl, hv.on, .inl ⟨hw, ⟨h1.blk.other (by simp; omega) _, h1.len, h1.err⟩, hres.set 0 _⟩⟩, ?_⟩⟩
  exact ((hv.frm.mono (Y := (· = b)) (fun _ _ h => h.elim)).next h2 (fun _ _ h => h)).setCell (p := ⟨w.heap.size + 1, 0, none⟩) (fun h => absurd h (by simp)) _

/-- Behind the digit's being put down. -/
structure VarJ (w : World) (b : Nat) (l : List UInt8) (pre : List (Fin l.length)) (W W1 : World) : Prop where
  rd : Rd W1 b l 0
  r : Blk W1 w.heap.size 46 #[.pointer (some ⟨b, 0, none⟩)]
  res : Blk W1 (w.heap.size + 1) 35 #[.int .u32 0]
  n : Blk W1 (w.heap.size + 1 + 1) 35 #[.int .u32 (accN l pre)]
  frm : Frm (fun _ => False) w W1
  oth : KeepsOthers W W1
  bn : W1.heap[w.heap.size + 1 + 1 + 1]? = W.heap[w.heap.size + 1 + 1 + 1]?
theorem VarJ.step {w W : World} {b : Nat} {l : List UInt8} {pre : List (Fin l.length)} (h : Rd w b l 0) (hv : VarI w b l pre W) (x : Fin l.length) :
    VarJ w b l (pre ++ [x]) W (W.setCell ⟨w.heap.size + 1 + 1, 0, none⟩ (.int .u32 (accN l (pre ++ [x])))).drew := by
  have hlt := h.lt
  exact ⟨⟨(hv.rd.blk.other (by simp; omega) _).drew, h.len, by omega⟩, (hv.r.other (by simp; omega) _).drew, (hv.res.other (by simp) _).drew, (hv.n.set 0 _).drew, (hv.frm.setCell (p := ⟨w.heap.size + 1 + 1, 0, none⟩) (fun h => absurd h (by simp; omega)) _).drew,
    (KeepsOthers.setCell _ _ _).trans (KeepsOthers.drew _), Below.heap_setCell _ _ _ _ (by simp)⟩
theorem VarJ.go {w W W1 : World} {b : Nat} {l : List UInt8} {pre : List (Fin l.length)} {x : Fin l.length} (hj : VarJ w b l (pre ++ [x]) W W1) (hv : VarI w b l pre W) (hw : ¬ wrong l x) (hb : ¬ l[x.val].toNat < 128) :
    KeepsOthers W W1 ∧ W1.heap[w.heap.size + 1 + 1 + 1]? = W.heap[w.heap.size + 1 + 1 + 1]? ∧ VarI w b l (pre ++ [x]) W1 := by
  refine ⟨hj.oth, hj.bn, ⟨fun y hy => ?_, hj.rd, hj.r, hj.res, hj.n, hj.frm⟩⟩
  rcases List.mem_append.1 hy with hy | hy
  · exact hv.on y hy
  · obtain rfl : y = x := by simpa using hy
    exact ⟨by omega, fun h4 => hw (.inl ⟨h4, by omega⟩)⟩

theorem VarX.good {w W W1 : World} {b : Nat} {l : List UInt8} {pre : List (Fin l.length)} (h : Rd w b l 0) (hv : VarI w b l pre W) (x : Fin l.length) (hw : ¬ wrong l x) (hb : l[x.val].toNat < 128) (hj : VarJ w b l (pre ++ [x]) W W1) :
    KeepsOthers W ((W1.setCell ⟨b, 0, none⟩ (.string ((bs l).extract (x.val + 1) (bs l).size))).setCell ⟨w.heap.size + 1, 0, none⟩ (.int .u32 (accN l (pre ++ [x])))).drew ∧ Code.ret = Code.ret ∧
      VarX w b l (pre ++ [x]) ((W1.setCell ⟨b, 0, none⟩ (.string ((bs l).extract (x.val + 1) (bs l).size))).setCell ⟨w.heap.size + 1, 0, none⟩ (.int .u32 (accN l (pre ++ [x])))).drew := by
  have hlt := h.lt
  rw [bs_drop]
  have hr := hj.rd.rest (x.val + 1)
  refine ⟨((hj.oth.trans (KeepsOthers.setCell _ _ _)).trans (KeepsOthers.setCell _ _ _)).trans (KeepsOthers.drew _), rfl, ⟨⟨pre, x, rfl, hv.on, .inr ⟨hw, hb, ⟨(hr.blk.other (by simp; omega) _).drew, hr.len, by omega⟩, (((hj.res.other (by simp; omega) _).set 0 _).drew)⟩⟩, ?_⟩⟩
  exact (((hj.frm.mono (Y := (· = b)) (fun _ _ h => h.elim)).setCell (p := ⟨b, 0, none⟩) (fun _ => rfl) _).setCell (p := ⟨w.heap.size + 1, 0, none⟩) (fun h => absurd h (by simp)) _).drew

/-! What is read, in plain words. -/
def varAt (i m : Nat) : List UInt8 → Nat × List UInt8 × Nat
  | [] => (0, [], 10)
  | c :: r => if (i = 4 ∧ 15 < c.toNat) ∨ (0 < i ∧ c.toNat = 0) then (0, [], 4)
      else if c.toNat < 128 then (m + c.toNat * 128 ^ i, r, 0) else varAt (i + 1) (m + (c.toNat - 128) * 128 ^ i) r
theorem and127 (c : Nat) : c &&& 127 = c % 128 := Nat.and_two_pow_sub_one_eq_mod c 7
theorem digN_eq (l : List UInt8) (k : Nat) (hk : k < l.length) (h4 : k ≤ 4) (h15 : k = 4 → l[k].toNat ≤ 15) : digN l ⟨k, hk⟩ = l[k].toNat % 128 * 128 ^ k := by
  have hb := l[k].toNat_lt
  unfold digN
  have h2 : min (7 * k) 32 = 7 * k := by omega
  have h3 : (2 : Nat) ^ (7 * k) = 128 ^ k := by rw [Nat.pow_mul]
  simp only [h2, h3, and127]
  refine Nat.mod_eq_of_lt ?_
  have hd : l[k].toNat % 128 < 128 := Nat.mod_lt _ (by omega)
  rcases (show k = 0 ∨ k = 1 ∨ k = 2 ∨ k = 3 ∨ k = 4 by omega) with rfl | rfl | rfl | rfl | rfl
  · omega
  · omega
  · omega
  · omega
  · have := h15 rfl
    have : l[4].toNat % 128 ≤ 15 := by omega
    omega
theorem or_digit (m d k : Nat) (hm : m < 128 ^ k) : m ||| d * 128 ^ k = m + d * 128 ^ k := by
  have h3 : (2 : Nat) ^ (7 * k) = 128 ^ k := by rw [Nat.pow_mul]
  rw [Nat.or_comm, nat_join (7 * k) _ _ (by rw [h3, Nat.mul_mod_left]) (by rw [h3]; exact hm)]
  omega
theorem accN_pow (l : List UInt8) (k : Nat) (hk : k ≤ l.length) (h4 : k ≤ 4) : accN l (upto l k) < 128 ^ k := by
  induction k with
  | zero => rw [upto_zero]; exact Nat.one_pos
  | succ k ih =>
    have h := ih (by omega) (by omega)
    rw [upto_succ l k (by omega), accN_snoc, digN_eq l k (by omega) (by omega) (by omega), or_digit _ _ _ h]
    have hd : l[k].toNat % 128 < 128 := Nat.mod_lt _ (by omega)
    have : l[k].toNat % 128 * 128 ^ k ≤ 127 * 128 ^ k := Nat.mul_le_mul_right _ (by omega)
    rw [Nat.pow_succ]
    omega
theorem varAt_walk (l : List UInt8) (k : Nat) (hk : k ≤ l.length) (h4 : k ≤ 4) (hc : cont l k) : varAt 0 0 l = varAt k (accN l (upto l k)) (l.drop k) := by
  induction k with
  | zero => rw [upto_zero]; rfl
  | succ k ih =>
    have h1 := hc k (by omega) (by omega)
    have hb := l[k].toNat_lt
    rw [ih (by omega) (by omega) (fun j hj hjk => hc j hj (by omega)), List.drop_eq_getElem_cons (by omega), varAt, if_neg (by omega), if_neg (by omega),
      upto_succ l k (by omega), accN_snoc, digN_eq l k (by omega) (by omega) (by omega), or_digit _ _ _ (accN_pow l k (by omega) (by omega))]
    have : l[k].toNat % 128 = l[k].toNat - 128 := by omega
    rw [this]
theorem varAt_torn (l : List UInt8) (h4 : l.length ≤ 4) (hc : cont l l.length) : varAt 0 0 l = (0, [], 10) := by
  rw [varAt_walk l l.length (Nat.le_refl _) h4 hc, List.drop_length]; rfl
theorem varAt_wrong (l : List UInt8) (k : Nat) (hk : k < l.length) (h4 : k ≤ 4) (hc : cont l k) (hw : wrong l ⟨k, hk⟩) : varAt 0 0 l = (0, [], 4) := by
  rw [varAt_walk l k (by omega) h4 hc, List.drop_eq_getElem_cons hk, varAt, if_pos (show (k = 4 ∧ 15 < l[k].toNat) ∨ (0 < k ∧ l[k].toNat = 0) from hw)]
theorem varAt_good (l : List UInt8) (k : Nat) (hk : k < l.length) (h4 : k ≤ 4) (hc : cont l k) (hw : ¬ wrong l ⟨k, hk⟩) (hb : l[k].toNat < 128) : varAt 0 0 l = (accN l (upto l (k + 1)), l.drop (k + 1), 0) := by
  have h15 : k = 4 → l[k].toNat ≤ 15 := fun e => Nat.not_lt.1 fun h => hw (.inl ⟨e, h⟩)
  rw [varAt_walk l k (by omega) h4 hc, List.drop_eq_getElem_cons hk, varAt, if_neg (show ¬ ((k = 4 ∧ 15 < l[k].toNat) ∨ (0 < k ∧ l[k].toNat = 0)) from hw), if_pos hb, upto_succ l k hk, accN_snoc, digN_eq l k hk h4 h15, or_digit _ _ _ (accN_pow l k (by omega) h4)]
  have : l[k].toNat % 128 = l[k].toNat := Nat.mod_eq_of_lt hb
  rw [this]
theorem upto_mem (l : List UInt8) (k j : Nat) (hj : j < k) (hl : j < l.length) : (⟨j, hl⟩ : Fin l.length) ∈ upto l k := by
  unfold upto
  rw [List.mem_take_iff_getElem]
  exact ⟨j, by simp; omega, by simp⟩
theorem goesOn_le {l : List UInt8} {k : Nat} (hk : k ≤ l.length) (h : ∀ x ∈ upto l k, goesOn l x) : k ≤ 4 := by
  rcases Nat.lt_or_ge 4 k with h5 | h5
  · exact absurd rfl (h ⟨4, by omega⟩ (upto_mem l k 4 h5 (by omega))).2
  · exact h5
theorem upto_split {l : List UInt8} {j : Nat} (hj : j < l.length) {q : List (Fin l.length)} {x : Fin l.length} (h : upto l (j + 1) = q ++ [x]) : q = upto l j ∧ x = ⟨j, hj⟩ := by
  rw [upto_succ l j hj] at h
  have := List.append_inj' h rfl
  exact ⟨this.1.symm, by simpa using this.2.symm⟩
/-- What reading a var number does. -/
def varS (l : List UInt8) (e : Nat) : Nat × List UInt8 × Nat := if e = 0 then varAt 0 0 l else (0, l, e)
theorem var_done {l : List UInt8} {xs : List (Fin l.length)} (hS : vAll l xs) (hon : ∀ x ∈ xs, goesOn l x) : varAt 0 0 l = (0, [], 10) := by
  obtain ⟨k, rfl, hk, ⟨rfl, hc⟩ | ⟨j, rfl, hc, hj, hb⟩⟩ := hS
  · exact varAt_torn l (goesOn_le (Nat.le_refl _) hon) hc
  · have := (hon ⟨j, hj⟩ (upto_mem l (j + 1) j (by omega) hj)).1
    simp only at this
    omega
theorem var_stop {w W : World} {b : Nat} {l : List UInt8} {pre : List (Fin l.length)} (hS : vPart l pre) (hx : VarX w b l pre W) :
    Rd W b (varAt 0 0 l).2.1 (varAt 0 0 l).2.2 ∧ Blk W (w.heap.size + 1) 35 #[.int .u32 (varAt 0 0 l).1] := by
  obtain ⟨j, rfl, hj, hc⟩ := hS
  obtain ⟨q, x, e, hq, h⟩ := hx.out
  obtain ⟨rfl, rfl⟩ := upto_split hj e
  have h4 := goesOn_le (by omega) hq
  rcases h with ⟨h1, h2, h3⟩ | ⟨h1, h2, h3, h5⟩
  · rw [varAt_wrong l j hj h4 hc h1]; exact ⟨h2, h3⟩
  · rw [varAt_good l j hj h4 hc h1 h2]; exact ⟨h3, h5⟩

/-- A reader that is torn, between two rounds. -/
structure VarE (w : World) (b e : Nat) (W : World) : Prop where
  rd : Rd W b [] e
  r : Blk W w.heap.size 46 #[.pointer (some ⟨b, 0, none⟩)]
  res : Blk W (w.heap.size + 1) 35 #[.int .u32 0]
  frm : Frm (fun _ => False) w W
theorem VarE.own {α : Type} (w : World) (b e : Nat) (B : Nat) (hB : w.heap.size ≤ B) : OwnFrom (β := α) B (fun _ => VarE w b e) := fun _ _ _ _ h hg hr =>
  have hr2 := fun r e => (hr r e).2
  ⟨h.rd.turned hg hr2, h.r.turned hg hr2, h.res.turned hg hr2, h.frm.turned hB hg hr⟩

end Go.Proofs.Ytlajfmpgodcbmaa
