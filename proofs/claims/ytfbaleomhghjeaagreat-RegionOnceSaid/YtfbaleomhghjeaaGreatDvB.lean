/- A block's bytes as cells: copied from a text, overwritten, compared; bytes as an element of a map. Of no function of the program. No condition. -/
import Derived.Test.YtfbaleomhghjeaaGreatCodecT
import Derived.Test.YtfbaleomhghjeaaGreatDvM
import Derived.Laws.IdiomCopy
import Derived.Maps.Range
import Derived.Maps.OwnSet
import Derived.Deep.MidRow
import Derived.Deep.WholeRow
namespace Go.Proofs.YtfbaleomhghjeaaGreat
open Go.RowKit

/-- Bytes as an array's value. -/
abbrev bkv (l : List UInt8) : Value := .agg (u8s l).toArray
theorem u8_one {l : List UInt8} : ∀ v ∈ u8s l, v.oneCell' = true := by
  intro v hv
  obtain ⟨x, _, rfl⟩ := List.mem_map.1 hv
  rfl
theorem u8s_inj {a b : List UInt8} (h : u8s a = u8s b) : a = b := by
  have : ∀ (a b : List UInt8), u8s a = u8s b → a = b := by
    intro a
    induction a with
    | nil => intro b h; cases b with
      | nil => rfl
      | cons y b => simp [u8s] at h
    | cons x a ih => intro b h; cases b with
      | nil => simp [u8s] at h
      | cons y b =>
        simp only [u8s, List.map_cons, List.cons.injEq, Value.int.injEq, true_and] at h
        rw [ih b h.2, UInt8.toNat_inj.1 (by omega : x.toNat = y.toNat)]
  exact this a b h
theorem u8s_take (l : List UInt8) (n : Nat) : (u8s l).take n = u8s (l.take n) := by simp [u8s, List.map_take]
theorem u8s_set (l : List UInt8) (i : Nat) (x : UInt8) : (u8s l).toArray.setIfInBounds i (.int .u8 x.toNat) = (u8s (l.set i x)).toArray := by
  simp [u8s, List.map_set]

/-- The first bytes of a text, copied. -/
theorem run_copy_text {P : Program} (w : World) (dT sT ty elem : TypeId) (b o dLen dCap : Nat) (l : List UInt8) (hu : P.underlying dT = some (.slice elem)) (hs : (P.info? elem).map (·.size) = some 1)
    (hc : ∀ j, j < min l.length dLen → (w.cell? ⟨b, o + j, none⟩).isSome = true) (hf : ∀ j, j < min l.length dLen → w.frozen? ⟨b, o + j, none⟩ = false) :
    (Builtin.copy_ #[dT, sT] ty #[.slice (some ⟨b, o, none⟩) dLen dCap, .string (bs l)]).run P w = .ok (.int .i64 (min l.length dLen : Nat)) (w.setCells b o (u8s (l.take (min l.length dLen)))) := by
  have e : List.take ((bs l).size.min dLen) (List.map (fun b => Value.int IntKind.u8 (b.toNat : Nat)) (bs l).data.toList) = u8s (l.take (min l.length dLen)) := by
    simp [bs, u8s, ByteArray.size, List.map_take, Nat.min_def]
  have hlen : (u8s (l.take (min l.length dLen))).length = min l.length dLen := by rw [u8s_length, List.length_take]; omega
  have hst := run_storeCells_cells (P := P) b o (u8s (l.take (min l.length dLen))) 0 w (by rw [hlen]; simpa using hc) (by rw [hlen]; simpa using hf) u8_one
  have hm : Nat.min (bs l).size dLen = min l.length dLen := by rw [bs_size]
  cases hq : P.info? elem with
  | none => simp [hq] at hs
  | some i =>
    have hm2 : (((bs l).size.min dLen : Nat) : Int) = (min l.length dLen : Nat) := by rw [hm]
    simp [Builtin.copy_, run_underlying hu, Builtin.lenOf, Builtin.firstCells, sizeOf, typeInfo, hq, e, hst]
    exact congrArg (Value.int .i64) hm2
theorem Blk.setBytes {b : Nat} {t : TypeId} : ∀ (m : List UInt8) (l : List UInt8) (o : Nat) (w : World), Blk w b t (u8s l).toArray → o + m.length ≤ l.length → Blk (w.setCells b o (u8s m)) b t (u8s (l.take o ++ m ++ l.drop (o + m.length))).toArray := by
  intro m
  induction m with
  | nil =>
    intro l o w h _
    simp only [List.append_nil, List.length_nil, Nat.add_zero, List.take_append_drop]
    exact h
  | cons x m ih =>
    intro l o w h ho
    rw [List.length_cons] at ho
    have h1 := h.set o (.int .u8 x.toNat)
    rw [u8s_set] at h1
    have h2 := ih (l.set o x) (o + 1) _ h1 (by rw [List.length_set]; omega)
    have e : (l.set o x).take (o + 1) ++ m ++ (l.set o x).drop (o + 1 + m.length) = l.take o ++ x :: m ++ l.drop (o + (m.length + 1)) := by
      have e1 : (l.set o x).take (o + 1) = l.take o ++ [x] := by
        rw [List.take_add_one, List.take_set_of_le (Nat.le_refl _), List.getElem?_set_self (by omega)]
        rfl
      have e2 : (l.set o x).drop (o + 1 + m.length) = l.drop (o + (m.length + 1)) := by
        rw [List.drop_set_of_lt (by omega)]
        congr 1
        omega
      rw [e1, e2]
      simp
    rw [e] at h2
    exact h2
theorem setBytes_frm (b o : Nat) (m : List UInt8) (w : World) : Frm (· = b) w (w.setCells b o (u8s m)) := by
  obtain ⟨h1, h2, h3, h4⟩ := setCells_rest b (u8s m) o w
  exact ⟨h1, h2, h3, by omega, fun k _ hk => setCells_blk b (u8s m) o w k hk⟩

/-- An array's bytes, read off its cells. -/
def deU8 : List Value → Option (List UInt8)
  | [] => some []
  | .int .u8 n :: r => if 0 ≤ n ∧ n < 256 then (deU8 r).map (UInt8.ofNat n.toNat :: ·) else none
  | _ :: _ => none
theorem deU8_u8s (l : List UInt8) : deU8 (u8s l) = some l := by
  induction l with
  | nil => rfl
  | cons x l ih =>
    have hx := x.toNat_lt
    simp only [u8s, List.map_cons, deU8] at ih ⊢
    rw [if_pos (by omega), ih]
    simp
theorem deU8_inv : ∀ {vs : List Value} {l : List UInt8}, deU8 vs = some l → vs = u8s l := by
  intro vs
  induction vs with
  | nil => intro l h; simp only [deU8, Option.some.injEq] at h; subst h; rfl
  | cons v vs ih =>
    intro l h
    unfold deU8 at h
    split at h
    · cases h; rename_i e; cases e
    · rename_i n r e
      cases e
      split at h
      · rename_i hn
        obtain ⟨l', hl', rfl⟩ := Option.map_eq_some_iff.1 h
        have e2 : (UInt8.ofNat n.toNat).toNat = n.toNat := by
          rw [UInt8.toNat_ofNat']
          omega
        rw [ih hl']
        simp only [u8s, List.map_cons, e2]
        congr 2
        omega
      · cases h
    · cases h
/-- How a block reads as an element of a map. -/
def blkElem (v : Value) : Option (DataW Unit × List MemPlace) := match v with
  | .agg cs => match deU8 cs.toList with
    | some l => if l.length = 64 then some (.lit (.string l), []) else none
    | none => none
  | _ => none
theorem blkElem_mk {l : List UInt8} (h : l.length = 64) : blkElem (bkv l) = some (.lit (.string l), []) := by
  simp [blkElem, deU8_u8s, h]
theorem blkElem_any {v : Value} {y : DataW Unit × List MemPlace} (h : blkElem v = some y) : ∃ l, v = bkv l ∧ l.length = 64 ∧ y = (.lit (.string l), []) := by
  unfold blkElem at h
  split at h
  · rename_i cs
    split at h
    · rename_i l hl
      split at h
      · rename_i h64
        cases h
        refine ⟨l, ?_, h64, rfl⟩
        congr 1
        apply Array.ext'
        exact deU8_inv hl
      · cases h
    · cases h
  · cases h
theorem blkElem_inv {v : Value} {l : List UInt8} {ps : List MemPlace} (h : blkElem v = some (.lit (.string l), ps)) : v = bkv l ∧ l.length = 64 := by
  obtain ⟨l', h1, h2, h3⟩ := blkElem_any h
  cases h3
  exact ⟨h1, h2⟩
end Go.Proofs.YtfbaleomhghjeaaGreat

