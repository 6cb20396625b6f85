/- How SpaceFair stands; what Use, Give and Take answer, case by case. No condition. -/
import Derived.Test.YtdhnidmeeocajaaSpH
namespace Go.Proofs.Ytdhnidmeeocajaa
open Go.RowKit Go.Shelf

/-- How it stands: a space, and what the statement notes of it. -/
structure FrI (w wr : World) (s g u f n B : Nat) (S : SpV) (cc : Nat) : Prop where
  ea : S.a = f
  en : S.n = n
  sp : SpM wr s g S
  us : UsM wr u S
  len : S.all.length + cc = n - f
  frm : Frm (fun _ => False) w wr
  hi : B ≤ wr.heap.size
section
variable {w wr w' : World} {s g u f n B : Nat} {S S' : SpV} {cc c' : Nat}
theorem FrI.keepF (h : FrI w wr s g u f n B S cc) (g1 : Frm (fun _ => False) wr w') : FrI w w' s g u f n B S cc :=
  ⟨h.ea, h.en, h.sp.keepF g1, h.us.keep g1 (fun h => h), h.len, h.frm.trans g1, Nat.le_trans h.hi g1.size⟩
/-- A call that left the space as it was. -/
theorem FrI.same (h : FrI w wr s g u f n B S cc) (hg : w.heap.size ≤ g) (hu : u ≠ g) (h1 : SpM w' s g S) (g1 : Frm (· = g) wr w') : FrI w w' s g u f n B S cc :=
  ⟨h.ea, h.en, h1, h.us.keep g1 hu, h.len, h.frm.next g1 (fun k hk e => by omega), Nat.le_trans h.hi g1.size⟩
/-- A block has turned, and so has what is noted. -/
theorem FrI.turn (h : FrI w wr s g u f n B S cc) (hg : w.heap.size ≤ g) (hu : u ≠ g) (hs : u ≠ s) (hw : w.heap.size ≤ u) (k : Nat) (z : Int) (h2 : k < n) (h1 : SpM w' s g (S.flip k)) (g1 : Frm (· = g) wr w') (hz : ucS (S.flip k) k = z) (hl : (S.flip k).all.length + c' = n - f) :
    FrI w (w'.setCell ⟨u, k, none⟩ (.int .i64 z)) s g u f n B (S.flip k) c' := by
  have hus := (h.us.keep g1 hu).set k z (by rw [h.en]; exact h2) hz
  refine ⟨h.ea, h.en, h1.keepB (Below.heap_setCell _ _ _ _ hs.symm) (Below.heap_setCell _ _ _ _ hu.symm), hus, hl, (h.frm.next g1 (fun k hk e => by omega)).setCell (p := ⟨u, k, none⟩) (fun h => by have h : u < w.heap.size := h; omega) _, ?_⟩
  have := g1.size
  have := h.hi
  simp [World.setCell]
  omega
end
theorem use_out {S : SpV} {z : Int} (h : S.inn z = false) : S.use z = (S, 2) := by unfold SpV.use; rw [if_neg (by rw [h]; decide)]
theorem use_free {S : SpV} {k : Nat} (h1 : S.a ≤ k) (h2 : k < S.n) (hf : S.F k = true) : S.use (k : Int) = (S.flip k, 0) := by
  unfold SpV.use
  rw [if_pos (SpV.inn_of h1 h2), Int.toNat_natCast, if_pos hf]
theorem use_used {S : SpV} {k : Nat} (h1 : S.a ≤ k) (h2 : k < S.n) (hf : S.F k = false) : S.use (k : Int) = (S, 6) := by
  unfold SpV.use
  rw [if_pos (SpV.inn_of h1 h2), Int.toNat_natCast, if_neg (by rw [hf]; decide)]
theorem give_out {S : SpV} {z : Int} (h : S.inn z = false) : S.give z = (S, 2) := by unfold SpV.give; rw [if_neg (by rw [h]; decide)]
theorem give_used {S : SpV} {k : Nat} (h1 : S.a ≤ k) (h2 : k < S.n) (hf : S.F k = false) : S.give (k : Int) = (S.flip k, 0) := by
  unfold SpV.give
  rw [if_pos (SpV.inn_of h1 h2), Int.toNat_natCast, if_neg (by rw [hf]; decide)]
theorem give_free {S : SpV} {k : Nat} (h1 : S.a ≤ k) (h2 : k < S.n) (hf : S.F k = true) : S.give (k : Int) = (S, 5) := by
  unfold SpV.give
  rw [if_pos (SpV.inn_of h1 h2), Int.toNat_natCast, if_pos hf]
theorem take_none {S : SpV} (h : S.all = []) : S.take = (S, 0, 7) := by unfold SpV.take; rw [h]
theorem take_some {S : SpV} {k : Nat} {l : List Nat} (h : S.all = k :: l) : S.take = (S.flip k, k, 0) := by unfold SpV.take; rw [h]
/-- Load, of which the numbers are known. -/
theorem spload_ok (a n : Nat) (v : Value) (l : List Int) (S : SpV) (w : World) (h1 : a < 10000) (h2 : n < 10000) (hm : maySp a n = true) (hl : (SpV.new a n).loadU l = some S) (hv : Zs w v l) :
    Calls Try.prog 7 #[.int .i64 (a : Nat), .int .i64 (n : Nat), v] w fun e w' => ∃ s g, e = .returned (.tuple #[.pointer (some ⟨s, 0, none⟩), .int .i64 0]) ∧ Sq w w' s g S := by
  have h := spload_any (a : Int) (n : Int) v l w ⟨by omega, by omega⟩ ⟨by omega, by omega⟩ hv
  unfold LoadTo at h
  simp only [hm, if_true, Int.toNat_natCast, hl] at h
  exact h.mono fun e w' ⟨v, h1, s, g, h2, h3, h4, h5, h6⟩ => ⟨s, g, by rw [h1, h2], h3, h6, h4, h5⟩
end Go.Proofs.Ytdhnidmeeocajaa
