/- The statements' acts, as they lie in the argument's memory; ints that grow by append; a row of numbers that is written. No condition. -/
import Derived.Test.YtdhnidmeeocajaaSpN
import Derived.Test.YtdhnidmeeocajaaSpG
import Derived.Test.YtdhnidmeeocajaaRec
namespace Go.Proofs.Ytdhnidmeeocajaa
open Go.RowKit Go.Shelf

/-- An act: what, at which block. -/
structure A2 where
  k : Nat
  q : Int
  hk : k < 256
  hq : Z64 q
def a2c (x : A2) : List Value := [.int .u8 (x.k : Nat), .int .i64 x.q]
theorem a2c_len (x : A2) : (a2c x).length = 2 := rfl
def A2L (w : World) (v : Value) (l : List A2) : Prop := Sl w 2 v l.length (flat a2c l)
section
variable {w w' : World} {v : Value} {l : List A2}
theorem A2L.keepF (h : A2L w v l) (hf : Frm (fun _ => False) w w') : A2L w' v l := Sl.keepF h hf
theorem A2L.slice (h : A2L w v l) : ∃ a cap, v = .slice a l.length cap ∧ l.length ≤ cap ∧ cap ≤ maxLen := Sl.slice h
theorem A2L.elem {a : Option Addr} {cap : Nat} (h : A2L w (.slice a l.length cap) l) (k : Nat) (hk : k < l.length) : ∃ g off, a = some ⟨g, off, none⟩ ∧ g < w.heap.size ∧ w.cell? ⟨g, off + k * 2, none⟩ = some (.int .u8 (l[k].k : Nat)) ∧ w.cell? ⟨g, off + k * 2 + 1, none⟩ = some (.int .i64 l[k].q) := by
  obtain ⟨g, off, rfl, h0, hc⟩ := Sl.elem a2c a2c_len h k hk (by omega)
  exact ⟨g, off, rfl, h0, hc 0 (by omega), by rw [Nat.add_assoc]; exact hc 1 (by omega)⟩
end
/-- A slice of ints that the call holds by itself. -/
def OwnI (w : World) (v : Value) (l : List Int) : Prop := Row w 1 v l.length (zcs l)
theorem OwnI.zs {w : World} {v : Value} {l : List Int} (h : OwnI w v l) : Zs w v l := Sl.ofRow h
theorem OwnI.nil_ (w : World) : OwnI w (.slice none 0 0) [] := Row.nil_ w 1
theorem OwnI.keep {X : Nat → Prop} {w w' : World} {v : Value} {l : List Int} (h : OwnI w v l) (hf : Frm X w w') (hn : ∀ g, v.ownBlock = some g → ¬ X g) : OwnI w' v l := Row.keep h hf hn
theorem OwnI.keepF {w w' : World} {v : Value} {l : List Int} (h : OwnI w v l) (hf : Frm (fun _ => False) w w') : OwnI w' v l := Row.keep h hf (fun _ _ h => h)
theorem OwnI.slice {w : World} {v : Value} {l : List Int} (h : OwnI w v l) : ∃ a cap, v = .slice a l.length cap ∧ l.length ≤ cap ∧ cap ≤ maxLen := Row.slice h
theorem infoI : (Try.prog.info? 3).map (fun i => (i.zero, i.size, i.bytes)) = some (some (.int .i64 0), 1, 8) := by kernel_rfl
theorem zcsI_append (a b : List Int) : zcs (a ++ b) = zcs a ++ zcs b := List.map_append
theorem zcsI_one (l : List Int) : ∀ u ∈ zcs l, u.oneCell' = true := fun u hu => by
  unfold zcs at hu
  obtain ⟨z, _, rfl⟩ := List.mem_map.1 hu
  rfl
theorem append_is (w : World) (v x : Value) (l m : List Int) (h : OwnI w v l) (hs : Zs w x m) (hb : l.length + m.length ≤ 1000000) :
    ∃ v' w', (Builtin.append_ #[23, 23] 23 #[v, x]).run Try.prog w = .ok v' w' ∧ OwnI w' v' (l ++ m) ∧ w.grownBy w' v.ownBlock ∧ (∀ g, v'.ownBlock = some g → v.ownBlock = some g ∨ w.heap.size ≤ g) := by
  obtain ⟨i0, hi, hz0, hz1, hz2⟩ := sinfo_parts infoI
  obtain ⟨v', w', h1, h2, h3, h4⟩ := run_append_row w 23 23 23 3 i0 (.int .i64 0) 1 8 Try.underlying23 hi hz0 hz1 hz2 rfl h x m.length (zcs m)
    (Sl.src hs Try.underlying23 (zcsI_one m)) (by unfold maxLen; omega) (by omega)
  exact ⟨v', w', h1, by unfold OwnI; rw [List.length_append, zcsI_append]; exact h2, h3, h4⟩
/-- One int in a slice of its own. -/
theorem Zs.lit (w : World) (x : Int) : Zs (w.alloc (.cells #[.int .i64 x] 3)) (.slice (some ⟨w.heap.size, 0, none⟩) 1 1) [x] :=
  Sl.ofRow (Row.made w 3 1 1 1 (zcs [x]) _ rfl (Nat.le_refl _) (by decide) rfl rfl)
/-- make([]int, n). -/
theorem run_makeI (W : World) (n : Nat) (h : n ≤ 1000000) : ∃ cs : Array Value, cs.size = n ∧ (∀ j, j < n → cs[j]? = some (.int .i64 0)) ∧ (Instr.makeSlice 23 (.int .i64 (n : Int)) (.int .i64 (n : Int))).run Try.prog W = .ok (.slice (some ⟨W.heap.size, 0, none⟩) n n) (W.alloc (.cells cs 3)) := by
  obtain ⟨i0, hi, hz0, hz1, hz2⟩ := sinfo_parts infoI
  have hmk := run_make (P := Try.prog) W 23 3 i0 (.int .i64 0) Try.underlying23 hi hz0 .i64 .i64 n n (by omega) (by omega) (by rw [hz2]; omega) (by omega)
  rw [Int.toNat_natCast, hz1, Nat.mul_one] at hmk
  refine ⟨_, size_madeCells _ _, fun j hj => ?_, hmk⟩
  have e : j % 1 = 0 := Nat.mod_one j
  simp [madeCells, Value.cells, e, hj]
/-- What the statement notes of a block: 1, it is used. -/
def ucS (S : SpV) (j : Nat) : Int := if S.a ≤ j ∧ S.F j = false then 1 else 0
structure UsM (w : World) (u : Nat) (S : SpV) : Prop where
  lt : u < w.heap.size
  at_ : ∀ j, j < S.n → w.cell? ⟨u, j, none⟩ = some (.int .i64 (ucS S j)) ∧ w.frozen? ⟨u, j, none⟩ = false
section
variable {w w' : World} {u : Nat} {S : SpV}
theorem UsM.keep {X : Nat → Prop} (h : UsM w u S) (hf : Frm X w w') (hn : ¬ X u) : UsM w' u S := ⟨Nat.lt_of_lt_of_le h.lt hf.size, fun j hj => by
  have e := hf.block u h.lt hn
  rw [World.cell?_of_block (a := ⟨u, j, none⟩) e, World.frozen?_of_block (a := ⟨u, j, none⟩) e]
  exact h.at_ j hj⟩
theorem UsM.set (h : UsM w u S) (k : Nat) (z : Int) (hk : k < S.n) (hz : ucS (S.flip k) k = z) : UsM (w.setCell ⟨u, k, none⟩ (.int .i64 z)) u (S.flip k) := ⟨by simpa [World.setCell] using h.lt, fun j hj => by
  rw [World.frozen?_setCell]
  refine ⟨?_, (h.at_ j hj).2⟩
  by_cases e : j = k
  · subst e
    rw [World.cell?_setCell_same _ _ _ (h.at_ j hj).1, hz]
  · rw [World.cell?_setCell_other _ _ _ _ (fun h => e (by cases h; rfl)), (h.at_ j hj).1]
    unfold ucS
    rw [SpV.flip_ne S e]
    rfl⟩
end
theorem ucS_free {S : SpV} {k : Nat} (h : S.F k = true) : ucS S k = 0 := by
  unfold ucS
  rw [if_neg (fun e => by rw [h] at e; cases e.2)]
theorem ucS_used {S : SpV} {k : Nat} (h1 : S.a ≤ k) (h : S.F k = false) : ucS S k = 1 := by
  unfold ucS
  rw [if_pos ⟨h1, h⟩]
end Go.Proofs.Ytdhnidmeeocajaa
