/- Pages: as they lie in the argument's memory; which one of a block is the last; what their writes make. No condition. -/
import Derived.Test.YtnhihadnaiaojaaDvAct
import Derived.Test.YtnhihadnaiaojaaDvM
namespace Go.Proofs.Ytnhihadnaiaojaa
open Go.RowKit
structure PgI where
  k : Nat
  s : List UInt8
structure PgAt (w : World) (b off : Nat) (x : PgI) : Prop where
  lt : b < w.heap.size
  c0 : w.cell? ⟨b, off, none⟩ = some (.int .u8 (x.k : Nat))
  c1 : w.cell? ⟨b, off + 1, none⟩ = some (.string (bs x.s))
  k : x.k < 256
  s : x.s.length ≤ 9223372036854775807
def Pgs (w : World) (v : Value) (L : List PgI) : Prop :=
  ∃ a cap, v = .slice a L.length cap ∧ L.length ≤ cap ∧ cap ≤ maxLen ∧ ∀ i (h : i < L.length), ∃ b off, a = some ⟨b, off, none⟩ ∧ PgAt w b (off + i * 2) L[i]
theorem PgAt.keepF {w w' : World} {b off : Nat} {x : PgI} (h : PgAt w b off x) (hf : Frm (fun _ => False) w w') : PgAt w' b off x := by
  have e := hf.block b h.lt (fun h => h)
  have ec : ∀ j, w'.cell? ⟨b, j, none⟩ = w.cell? ⟨b, j, none⟩ := fun j => World.cell?_of_block (a := ⟨b, j, none⟩) e
  exact ⟨Nat.lt_of_lt_of_le h.lt hf.size, by rw [ec]; exact h.c0, by rw [ec]; exact h.c1, h.k, h.s⟩

/-- Of the first i pages: which one is the last of block k (one more than its place; 0: none). -/
def lastN (L : List PgI) : Nat → Nat → Nat
  | 0, _ => 0
  | i + 1, k => if (L[i]?.map PgI.k) = some k then i + 1 else lastN L i k
theorem lastN_succ (L : List PgI) (i k : Nat) : lastN L (i + 1) k = if (L[i]?.map PgI.k) = some k then i + 1 else lastN L i k := rfl
theorem lastN_le (L : List PgI) (i k : Nat) : lastN L i k ≤ i := by
  induction i with
  | zero => exact Nat.le_refl _
  | succ i ih =>
    unfold lastN
    split
    · exact Nat.le_refl _
    · omega
theorem lastN_at (L : List PgI) (i k p : Nat) (h : lastN L i k = p + 1) : L[p]?.map PgI.k = some k := by
  induction i with
  | zero => simp [lastN] at h
  | succ i ih =>
    unfold lastN at h
    split at h
    · rename_i e
      obtain rfl : i = p := by omega
      exact e
    · exact ih h
/-- The text of the page at a place. -/
def pgS (L : List PgI) (p : Nat) : List UInt8 := ((L[p]?.map PgI.s).getD [])
/-- The first i pages written. -/
def aD (L : List PgI) (i : Nat) : DV := ⟨256, fun _ => zb, fun k => if lastN L i k = 0 then none else some (padB (pgS L (lastN L i k - 1)))⟩
/-- The last pages of blocks written, from the end on, down to place p. -/
def bD (L : List PgI) (p : Nat) : DV := ⟨256, fun _ => zb, fun k => if p < lastN L L.length k then some (padB (pgS L (lastN L L.length k - 1))) else none⟩
theorem aD_zero (L : List PgI) : aD L 0 = DV.new 256 := rfl
theorem aD_step (L : List PgI) (i : Nat) (h : i < L.length) : (aD L i).write L[i].k L[i].s = aD L (i + 1) := by
  unfold aD DV.write
  congr 1
  funext k
  have e : L[i]?.map PgI.k = some L[i].k := by rw [List.getElem?_eq_getElem h]; rfl
  dsimp only
  rw [lastN_succ, e]
  by_cases hk : k = L[i].k
  · subst hk
    rw [if_pos rfl, if_pos rfl, if_neg (by omega)]
    congr 2
    unfold pgS
    rw [Nat.add_sub_cancel, List.getElem?_eq_getElem h]
    rfl
  · rw [if_neg hk, if_neg (fun h => hk (Option.some.inj h).symm)]
theorem bD_top (L : List PgI) : bD L L.length = DV.new 256 := by
  unfold bD DV.new
  congr 1
  funext k
  have := lastN_le L L.length k
  rw [if_neg (by omega)]
theorem bD_zero (L : List PgI) : bD L 0 = aD L L.length := by
  unfold bD aD
  congr 1
  funext k
  by_cases h : lastN L L.length k = 0
  · rw [if_neg (by omega), if_pos h]
  · rw [if_pos (by omega), if_neg h]
theorem bD_write (L : List PgI) (i : Nat) (h : i < L.length) (hl : lastN L L.length L[i].k = i + 1) : (bD L (i + 1)).write L[i].k L[i].s = bD L i := by
  unfold bD DV.write
  congr 1
  funext k
  by_cases hk : k = L[i].k
  · subst hk
    rw [if_pos rfl, if_pos (by omega)]
    congr 2
    unfold pgS
    rw [hl, Nat.add_sub_cancel, List.getElem?_eq_getElem h]
    rfl
  · rw [if_neg hk]
    dsimp only
    have hne : lastN L L.length k ≠ i + 1 := fun e => hk (by
      have := lastN_at L L.length k i e
      rw [List.getElem?_eq_getElem h] at this
      exact (Option.some.inj this).symm)
    by_cases h2 : i < lastN L L.length k
    · rw [if_pos (by omega), if_pos h2]
    · rw [if_neg (by omega), if_neg h2]
theorem bD_skip (L : List PgI) (i : Nat) (h : i < L.length) (hl : lastN L L.length L[i].k ≠ i + 1) : bD L (i + 1) = bD L i := by
  unfold bD
  congr 1
  funext k
  have hne : lastN L L.length k ≠ i + 1 := fun e => hl (by
    have := lastN_at L L.length k i e
    rw [List.getElem?_eq_getElem h] at this
    have e2 : L[i].k = k := Option.some.inj this
    rw [e2]
    exact e)
  by_cases h2 : i < lastN L L.length k
  · rw [if_pos (by omega), if_pos h2]
  · rw [if_neg (by omega), if_neg h2]
/-- r crashes. -/
def DV.crashes (D : DV) (cs : List Int) : Nat → DV
  | 0 => D
  | r + 1 => (D.crashes cs r).crash cs
/-- Numbers in an array. -/
def zsArr (f : Nat → Nat) : Array Value := ((List.range 256).map fun k => Value.int .i64 (f k : Nat)).toArray
theorem zsArr_at (f : Nat → Nat) (k : Nat) (h : k < 256) : (zsArr f)[k]? = some (.int .i64 (f k : Nat)) := by
  unfold zsArr
  simp [h]
theorem zsArr_set (f : Nat → Nat) (k n : Nat) : (zsArr f).setIfInBounds k (.int .i64 (n : Nat)) = zsArr fun j => if j = k then n else f j := by
  unfold zsArr
  simp only [List.setIfInBounds_toArray]
  congr 1
  apply List.ext_getElem
  · simp
  · intro i h1 h2
    rw [List.getElem_set]
    by_cases e : k = i
    · subst e
      simp
    · rw [if_neg e]
      simp [Ne.symm e]
theorem lastN_step (L : List PgI) (i : Nat) (h : i < L.length) : (fun j => if j = L[i].k then i + 1 else lastN L i j) = lastN L (i + 1) := by
  funext j
  have e : L[i]?.map PgI.k = some L[i].k := by rw [List.getElem?_eq_getElem h]; rfl
  rw [lastN_succ, e]
  by_cases hj : j = L[i].k
  · rw [if_pos hj, if_pos (by rw [hj])]
  · rw [if_neg hj, if_neg (fun h => hj (Option.some.inj h).symm)]
end Go.Proofs.Ytnhihadnaiaojaa
