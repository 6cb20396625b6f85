/- Plain words on memory, of no program: a world that is another one but for some blocks and new ones; a block that is known whole. No condition. -/
import Derived.Test.YtdhnidmeeocajaaGreatRows
import Derived.WalkKit
import Derived.WalkSpells
import Derived.WalkLawsBesides
import Derived.Lib.Hide
section
namespace Go.Proofs.YtdhnidmeeocajaaGreat
open Go.RowKit

/-- But for the blocks of X, and new ones, w' is w. -/
structure Frm (X : Nat → Prop) (w w' : World) : Prop where
  os : w'.os = w.os
  tape : w'.tape = w.tape
  output : w'.output = w.output
  size : w.heap.size ≤ w'.heap.size
  block : ∀ k, k < w.heap.size → ¬ X k → w'.heap[k]? = w.heap[k]?

/-- Block b is these cells, of this element type, none frozen. -/
def Blk (w : World) (b : Nat) (t : TypeId) (cs : Array Value) : Prop := w.heap[b]? = some (.cells cs t (0, 0))

section
variable {X Y : Nat → Prop} {w w' w'' : World} {b : Nat} {t : TypeId} {cs : Array Value}
theorem Frm.refl (X : Nat → Prop) (w : World) : Frm X w w := ⟨rfl, rfl, rfl, Nat.le_refl _, fun _ _ _ => rfl⟩
theorem Frm.mono (h : Frm X w w') (hxy : ∀ k, k < w.heap.size → X k → Y k) : Frm Y w w' :=
  ⟨h.os, h.tape, h.output, h.size, fun k hk hn => h.block k hk fun hx => hn (hxy k hk hx)⟩
theorem Frm.trans (h : Frm X w w') (h' : Frm X w' w'') : Frm X w w'' :=
  ⟨h'.os.trans h.os, h'.tape.trans h.tape, h'.output.trans h.output, Nat.le_trans h.size h'.size,
    fun k hk hn => (h'.block k (Nat.lt_of_lt_of_le hk h.size) hn).trans (h.block k hk hn)⟩
/-- Two steps, of which the second one may write its blocks, and what was new behind the first one. -/
theorem Frm.next (h : Frm X w w') (h' : Frm Y w' w'') (hxy : ∀ k, k < w.heap.size → Y k → X k) : Frm X w w'' :=
  ⟨h'.os.trans h.os, h'.tape.trans h.tape, h'.output.trans h.output, Nat.le_trans h.size h'.size,
    fun k hk hn => (h'.block k (Nat.lt_of_lt_of_le hk h.size) fun hy => hn (hxy k hk hy)).trans (h.block k hk hn)⟩
theorem Frm.alloc (h : Frm X w w') (o : Obj) : Frm X w (w'.alloc o) :=
  h.trans ⟨rfl, rfl, rfl, by simp, fun k hk _ => Below.heap_alloc _ _ _ hk⟩
theorem Frm.setCell (h : Frm X w w') {p : Addr} (hp : p.block < w.heap.size → X p.block) (u : Value) : Frm X w (w'.setCell p u) :=
  ⟨h.os, h.tape, h.output, by simpa [World.setCell] using h.size, fun k hk hn => by
    by_cases e : k = p.block
    · subst e; exact absurd (hp hk) hn
    · rw [Below.heap_setCell _ _ _ _ e]; exact h.block k hk hn⟩
theorem Frm.drew (h : Frm X w w') : Frm X w w'.drew := ⟨h.os, h.tape, h.output, h.size, h.block⟩
theorem Frm.drewN (h : Frm X w w') (n : Nat) : Frm X w (w'.drewN n) := ⟨h.os, h.tape, h.output, h.size, h.block⟩
theorem Frm.grown (h : Frm X w w') {row : Option Nat} (hg : w'.grownBy w'' row) (hr : ∀ k, k < w.heap.size → row = some k → X k) : Frm X w w'' :=
  ⟨hg.os.trans h.os, hg.tape.trans h.tape, hg.output.trans h.output, Nat.le_trans h.size hg.size,
    fun k hk hn => (hg.block k (Nat.lt_of_lt_of_le hk h.size) fun e => hn (hr k hk e.symm)).trans (h.block k hk hn)⟩
theorem Frm.below {B : Nat} (h : Frm X w w') (hx : ∀ k, k < w.heap.size → X k → B ≤ k) (hB : B ≤ w.heap.size) : Below B w w' :=
  ⟨h.os, h.tape, h.output, h.size, fun k hk => h.block k (by omega) fun hX => by have := hx k (by omega) hX; omega⟩
theorem Frm.ofBelow {B : Nat} (h : Below B w w') : Frm (B ≤ ·) w w' :=
  ⟨h.os, h.tape, h.output, h.size, fun k _ hn => h.block k (by omega)⟩

theorem Blk.lt (h : Blk w b t cs) : b < w.heap.size := by
  rcases Nat.lt_or_ge b w.heap.size with hlt | hge
  · exact hlt
  · have : w.heap[b]? = none := Array.getElem?_eq_none hge
    rw [Blk, this] at h; cases h
theorem Blk.keep (h : Blk w b t cs) (hf : Frm X w w') (hn : ¬ X b) : Blk w' b t cs := (hf.block b h.lt hn).trans h
theorem Blk.cell (h : Blk w b t cs) (i : Nat) {v : Value} (hv : cs[i]? = some v) : w.cell? ⟨b, i, none⟩ = some v := by
  simp only [World.cell?, Blk] at *
  simp [h, hv]
theorem Blk.free (h : Blk w b t cs) (i : Nat) : w.frozen? ⟨b, i, none⟩ = false := by
  simp only [World.frozen?, Blk] at *
  simp [h]
theorem Blk.alloc (w : World) (t : TypeId) (cs : Array Value) : Blk (w.alloc (.cells cs t)) w.heap.size t cs := by
  show (w.heap.push _)[w.heap.size]? = _
  simp
theorem Blk.old (h : Blk w b t cs) (o : Obj) : Blk (w.alloc o) b t cs := (Below.heap_alloc w o b h.lt).trans h
theorem Blk.drew (h : Blk w b t cs) : Blk w.drew b t cs := h
theorem Blk.drewN (h : Blk w b t cs) (n : Nat) : Blk (w.drewN n) b t cs := h
theorem Blk.set (h : Blk w b t cs) (i : Nat) (u : Value) : Blk (w.setCell ⟨b, i, none⟩ u) b t (cs.setIfInBounds i u) := by
  simp only [Blk] at h
  simp only [Blk, World.setCell, Array.getElem?_modify]
  simp [h]
theorem Blk.other (h : Blk w b t cs) {p : Addr} (hn : b ≠ p.block) (u : Value) : Blk (w.setCell p u) b t cs :=
  (Below.heap_setCell w p u b hn).trans h
end

/-- A text's value. -/
def bs (l : List UInt8) : ByteArray := ⟨l.toArray⟩
theorem bs_size (l : List UInt8) : (bs l).size = l.length := rfl
theorem bs_append (a b : List UInt8) : bs a ++ bs b = bs (a ++ b) := by
  apply ByteArray.ext
  simp [bs]
theorem bs_toList (l : List UInt8) : (bs l).toList = l := by rw [ByteArray.toList_eq]; rfl
theorem bs_take (l : List UInt8) (n : Nat) : (bs l).extract 0 n = bs (l.take n) := by
  apply ByteArray.ext
  simp [bs]
theorem bs_drop (l : List UInt8) (n : Nat) : (bs l).extract n (bs l).size = bs (l.drop n) := by
  apply ByteArray.ext
  simp only [bs_size, ByteArray.data_extract]
  apply Array.ext'
  simp [bs]
  exact List.take_of_length_le (by rw [List.length_drop]; exact Nat.le_refl _)
end Go.Proofs.YtdhnidmeeocajaaGreat
end
section
namespace Go.Proofs.YtdhnidmeeocajaaGreat

/-- The bytes of a block of bytes 0. -/
def zb : List UInt8 := List.replicate 64 0
theorem zb_len : zb.length = 64 := rfl
/-- A text, and bytes 0 behind it. -/
def padB (s : List UInt8) : List UInt8 := s ++ List.replicate (64 - s.length) 0
theorem padB_len {s : List UInt8} (h : s.length ≤ 64) : (padB s).length = 64 := by
  unfold padB
  rw [List.length_append, List.length_replicate]
  omega
/-- How many first bytes of the i-th fresh block survive. -/
def surv (cs : List Int) (i : Nat) : Nat := if cs.length = 0 then 0 else min ((cs.getD (i % cs.length) 0) % 66).toNat 64
theorem surv_le (cs : List Int) (i : Nat) : surv cs i ≤ 64 := by
  unfold surv
  split
  · omega
  · exact Nat.min_le_right _ _

structure DV where
  n : Nat
  F : Nat → List UInt8
  X : Nat → Option (List UInt8)
namespace DV
structure ok (D : DV) : Prop where
  lo : 256 ≤ D.n
  hi : D.n ≤ 2048
  fl : ∀ k, (D.F k).length = 64
  fz : ∀ k, D.n ≤ k → D.F k = zb
  xl : ∀ k l, D.X k = some l → l.length = 64 ∧ k < D.n
def new (n : Nat) : DV := ⟨n, fun _ => zb, fun _ => none⟩
def write (D : DV) (k : Nat) (s : List UInt8) : DV := ⟨D.n, D.F, fun j => if j = k then some (padB s) else D.X j⟩
def read (D : DV) (k : Nat) : List UInt8 := (D.X k).getD (D.F k)
def flush (D : DV) : DV := ⟨D.n, D.read, fun _ => none⟩
def fresh (D : DV) : List Nat := (List.range D.n).filter fun k => (D.X k).isSome
def rank (D : DV) (k : Nat) : Nat := ((List.range k).filter fun j => (D.X j).isSome).length
/-- What a crash by these choices leaves of a block. -/
def left (D : DV) (cs : List Int) (k : Nat) : List UInt8 := match D.X k with
  | some x => x.take (surv cs (D.rank k)) ++ (D.F k).drop (surv cs (D.rank k))
  | none => D.F k
def crash (D : DV) (cs : List Int) : DV := ⟨D.n, D.left cs, fun _ => none⟩

variable {D : DV}
theorem ok_new {n : Nat} (h1 : 256 ≤ n) (h2 : n ≤ 2048) : (new n).ok := ⟨h1, h2, fun _ => rfl, fun _ _ => rfl, fun _ _ h => by cases h⟩
theorem ok.write (h : D.ok) {k : Nat} (hk : k < D.n) {s : List UInt8} (hs : s.length ≤ 64) : (D.write k s).ok := by
  refine ⟨h.lo, h.hi, h.fl, h.fz, fun j l hj => ?_⟩
  simp only [DV.write] at hj ⊢
  split at hj
  · rename_i e
    subst e
    cases hj
    exact ⟨padB_len hs, hk⟩
  · exact h.xl j l hj
theorem ok.none (h : D.ok) {k : Nat} (hk : D.n ≤ k) : D.X k = none := by
  cases e : D.X k with
  | none => rfl
  | some l => have := (h.xl k l e).2; omega
theorem ok.rlen (h : D.ok) (k : Nat) : (D.read k).length = 64 := by
  unfold DV.read
  cases e : D.X k with
  | none => exact h.fl k
  | some l => exact (h.xl k l e).1
theorem ok.flush (h : D.ok) : D.flush.ok := by
  refine ⟨h.lo, h.hi, h.rlen, fun k hk => ?_, fun _ _ e => by cases e⟩
  simp only [DV.flush] at hk ⊢
  unfold DV.read
  rw [h.none hk]
  exact h.fz k hk
theorem ok.llen (h : D.ok) (cs : List Int) (k : Nat) : (D.left cs k).length = 64 := by
  unfold left
  split
  · rename_i x e
    have := (h.xl k x e).1
    have := h.fl k
    have := surv_le cs (D.rank k)
    rw [List.length_append, List.length_take, List.length_drop]
    omega
  · exact h.fl k
theorem ok.crash (h : D.ok) (cs : List Int) : (D.crash cs).ok := by
  refine ⟨h.lo, h.hi, h.llen cs, fun k hk => ?_, fun _ _ e => by cases e⟩
  simp only [DV.crash] at hk ⊢
  unfold left
  rw [h.none hk]
  exact h.fz k hk
theorem mem_fresh {k : Nat} : k ∈ D.fresh ↔ k < D.n ∧ (D.X k).isSome = true := by
  unfold fresh
  rw [List.mem_filter, List.mem_range]
theorem ok.mem (h : D.ok) {k : Nat} : k ∈ D.fresh ↔ (D.X k).isSome = true := by
  rw [mem_fresh]
  refine ⟨fun h => h.2, fun hx => ⟨?_, hx⟩⟩
  obtain ⟨l, hl⟩ := Option.isSome_iff_exists.1 hx
  exact (h.xl k l hl).2
theorem fresh_sorted (D : DV) : D.fresh.Pairwise (· < ·) := (List.pairwise_lt_range).filter _
theorem fresh_len (D : DV) : D.fresh.length ≤ D.n := by
  have := List.length_filter_le (fun k => (D.X k).isSome) (List.range D.n)
  rw [List.length_range] at this
  exact this
/-- The i-th fresh block has rank i. -/
theorem rank_at (D : DV) (i : Nat) (h : i < D.fresh.length) : D.rank D.fresh[i] = i := by
  obtain ⟨k, hk⟩ : ∃ k, D.fresh[i] = k := ⟨_, rfl⟩
  have hm := mem_fresh.1 (hk ▸ List.getElem_mem h : k ∈ D.fresh)
  have hs := D.fresh_sorted
  rw [hk]
  have e1 : (List.range k).filter (fun j => (D.X j).isSome) = D.fresh.filter (fun j => decide (j < k)) := by
    unfold fresh
    have e0 : List.range D.n = List.range' 0 k ++ List.range' k (D.n - k) := by
      have := List.range'_append_1 (s := 0) (m := k) (n := D.n - k)
      rw [Nat.zero_add, show k + (D.n - k) = D.n by omega] at this
      rw [List.range_eq_range']
      exact this.symm
    rw [List.filter_filter, e0, List.filter_append, List.range_eq_range']
    rw [show ((List.range' k (D.n - k)).filter fun a => decide (a < k) && (D.X a).isSome) = [] from ?_, List.append_nil]
    · refine List.filter_congr fun j hj => ?_
      rw [List.mem_range'_1] at hj
      simp only [show j < k by omega, decide_true, Bool.true_and]
    · rw [List.filter_eq_nil_iff]
      intro j hj
      rw [List.mem_range'_1] at hj
      simp only [show ¬ j < k by omega, decide_false, Bool.false_and, Bool.false_eq_true, not_false_eq_true]
  unfold rank
  rw [e1]
  have e2 : D.fresh = D.fresh.take i ++ D.fresh.drop i := (List.take_append_drop i _).symm
  have hp := hs
  rw [List.pairwise_iff_getElem] at hp
  rw [e2, List.filter_append]
  have e3 : (D.fresh.take i).filter (fun j => decide (j < k)) = D.fresh.take i := by
    rw [List.filter_eq_self]
    intro j hj
    obtain ⟨m, hm, rfl⟩ := List.getElem_of_mem hj
    rw [List.length_take] at hm
    have := hp m i (by omega) h (by omega)
    rw [List.getElem_take]
    rw [hk] at this
    simpa using this
  have e4 : (D.fresh.drop i).filter (fun j => decide (j < k)) = [] := by
    rw [List.filter_eq_nil_iff]
    intro j hj
    obtain ⟨m, hm, rfl⟩ := List.getElem_of_mem hj
    rw [List.length_drop] at hm
    rw [List.getElem_drop]
    rcases Nat.eq_zero_or_pos m with rfl | hpos
    · simp [hk]
    · have := hp i (i + m) h (by omega) (by omega)
      rw [hk] at this
      simp; omega
  rw [e3, e4, List.append_nil, List.length_take]
  omega
end DV
end Go.Proofs.YtdhnidmeeocajaaGreat
end
