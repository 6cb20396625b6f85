/- A block's bytes as cells: copied from a text, overwritten, compared; bytes as an element of a map. Of no function of the program. No condition. -/
import Derived.Test.YtdhnidmeeocajaaGreatCodecT
import Derived.Test.YtdhnidmeeocajaaGreatDvM
import Derived.Laws.IdiomCopy
import Derived.Maps.Range
import Derived.Maps.OwnSet
import Derived.Deep.MidRow
import Derived.Deep.WholeRow
import Derived.Shelf.SlIterI.Nil
import Derived.Maps.Ext
section
namespace Go.Proofs.YtdhnidmeeocajaaGreat
open Go.RowKit

/-- Bytes as an array's value. -/
abbrev bkv (l : List UInt8) : Value := .agg (u8s l).toArray
theorem u8_one {l : List UInt8} : ∀ v ∈ u8s l, v.oneCell' = true := by
  intro v hv
  obtain ⟨x, _, rfl⟩ := List.mem_map.1 hv
  rfl
theorem u8s_inj {a b : List UInt8} (h : u8s a = u8s b) : a = b := by
  have : ∀ (a b : List UInt8), u8s a = u8s b → a = b := by
    intro a
    induction a with
    | nil => intro b h; cases b with
      | nil => rfl
      | cons y b => simp [u8s] at h
    | cons x a ih => intro b h; cases b with
      | nil => simp [u8s] at h
      | cons y b =>
        simp only [u8s, List.map_cons, List.cons.injEq, Value.int.injEq, true_and] at h
        rw [ih b h.2, UInt8.toNat_inj.1 (by omega : x.toNat = y.toNat)]
  exact this a b h
theorem u8s_take (l : List UInt8) (n : Nat) : (u8s l).take n = u8s (l.take n) := by simp [u8s, List.map_take]
theorem u8s_set (l : List UInt8) (i : Nat) (x : UInt8) : (u8s l).toArray.setIfInBounds i (.int .u8 x.toNat) = (u8s (l.set i x)).toArray := by
  simp [u8s, List.map_set]

/-- The first bytes of a text, copied. -/
theorem run_copy_text {P : Program} (w : World) (dT sT ty elem : TypeId) (b o dLen dCap : Nat) (l : List UInt8) (hu : P.underlying dT = some (.slice elem)) (hs : (P.info? elem).map (·.size) = some 1)
    (hc : ∀ j, j < min l.length dLen → (w.cell? ⟨b, o + j, none⟩).isSome = true) (hf : ∀ j, j < min l.length dLen → w.frozen? ⟨b, o + j, none⟩ = false) :
    (Builtin.copy_ #[dT, sT] ty #[.slice (some ⟨b, o, none⟩) dLen dCap, .string (bs l)]).run P w = .ok (.int .i64 (min l.length dLen : Nat)) (w.setCells b o (u8s (l.take (min l.length dLen)))) := by
  have e : List.take ((bs l).size.min dLen) (List.map (fun b => Value.int IntKind.u8 (b.toNat : Nat)) (bs l).data.toList) = u8s (l.take (min l.length dLen)) := by
    simp [bs, u8s, ByteArray.size, List.map_take, Nat.min_def]
  have hlen : (u8s (l.take (min l.length dLen))).length = min l.length dLen := by rw [u8s_length, List.length_take]; omega
  have hst := run_storeCells_cells (P := P) b o (u8s (l.take (min l.length dLen))) 0 w (by rw [hlen]; simpa using hc) (by rw [hlen]; simpa using hf) u8_one
  have hm : Nat.min (bs l).size dLen = min l.length dLen := by rw [bs_size]
  cases hq : P.info? elem with
  | none => simp [hq] at hs
  | some i =>
    have hm2 : (((bs l).size.min dLen : Nat) : Int) = (min l.length dLen : Nat) := by rw [hm]
    simp [Builtin.copy_, run_underlying hu, Builtin.lenOf, Builtin.firstCells, sizeOf, typeInfo, hq, e, hst]
    exact congrArg (Value.int .i64) hm2
theorem Blk.setBytes {b : Nat} {t : TypeId} : ∀ (m : List UInt8) (l : List UInt8) (o : Nat) (w : World), Blk w b t (u8s l).toArray → o + m.length ≤ l.length → Blk (w.setCells b o (u8s m)) b t (u8s (l.take o ++ m ++ l.drop (o + m.length))).toArray := by
  intro m
  induction m with
  | nil =>
    intro l o w h _
    simp only [List.append_nil, List.length_nil, Nat.add_zero, List.take_append_drop]
    exact h
  | cons x m ih =>
    intro l o w h ho
    rw [List.length_cons] at ho
    have h1 := h.set o (.int .u8 x.toNat)
    rw [u8s_set] at h1
    have h2 := ih (l.set o x) (o + 1) _ h1 (by rw [List.length_set]; omega)
    have e : (l.set o x).take (o + 1) ++ m ++ (l.set o x).drop (o + 1 + m.length) = l.take o ++ x :: m ++ l.drop (o + (m.length + 1)) := by
      have e1 : (l.set o x).take (o + 1) = l.take o ++ [x] := by
        rw [List.take_add_one, List.take_set_of_le (Nat.le_refl _), List.getElem?_set_self (by omega)]
        rfl
      have e2 : (l.set o x).drop (o + 1 + m.length) = l.drop (o + (m.length + 1)) := by
        rw [List.drop_set_of_lt (by omega)]
        congr 1
        omega
      rw [e1, e2]
      simp
    rw [e] at h2
    exact h2
theorem setBytes_frm (b o : Nat) (m : List UInt8) (w : World) : Frm (· = b) w (w.setCells b o (u8s m)) := by
  obtain ⟨h1, h2, h3, h4⟩ := setCells_rest b (u8s m) o w
  exact ⟨h1, h2, h3, by omega, fun k _ hk => setCells_blk b (u8s m) o w k hk⟩

/-- An array's bytes, read off its cells. -/
def deU8 : List Value → Option (List UInt8)
  | [] => some []
  | .int .u8 n :: r => if 0 ≤ n ∧ n < 256 then (deU8 r).map (UInt8.ofNat n.toNat :: ·) else none
  | _ :: _ => none
theorem deU8_u8s (l : List UInt8) : deU8 (u8s l) = some l := by
  induction l with
  | nil => rfl
  | cons x l ih =>
    have hx := x.toNat_lt
    simp only [u8s, List.map_cons, deU8] at ih ⊢
    rw [if_pos (by omega), ih]
    simp
theorem deU8_inv : ∀ {vs : List Value} {l : List UInt8}, deU8 vs = some l → vs = u8s l := by
  intro vs
  induction vs with
  | nil => intro l h; simp only [deU8, Option.some.injEq] at h; subst h; rfl
  | cons v vs ih =>
    intro l h
    unfold deU8 at h
    split at h
    · cases h; rename_i e; cases e
    · rename_i n r e
      cases e
      split at h
      · rename_i hn
        obtain ⟨l', hl', rfl⟩ := Option.map_eq_some_iff.1 h
        have e2 : (UInt8.ofNat n.toNat).toNat = n.toNat := by
          rw [UInt8.toNat_ofNat']
          omega
        rw [ih hl']
        simp only [u8s, List.map_cons, e2]
        congr 2
        omega
      · cases h
    · cases h
/-- How a block reads as an element of a map. -/
def blkElem (v : Value) : Option (DataW Unit × List MemPlace) := match v with
  | .agg cs => match deU8 cs.toList with
    | some l => if l.length = 64 then some (.lit (.string l), []) else none
    | none => none
  | _ => none
theorem blkElem_mk {l : List UInt8} (h : l.length = 64) : blkElem (bkv l) = some (.lit (.string l), []) := by
  simp [blkElem, deU8_u8s, h]
theorem blkElem_any {v : Value} {y : DataW Unit × List MemPlace} (h : blkElem v = some y) : ∃ l, v = bkv l ∧ l.length = 64 ∧ y = (.lit (.string l), []) := by
  unfold blkElem at h
  split at h
  · rename_i cs
    split at h
    · rename_i l hl
      split at h
      · rename_i h64
        cases h
        refine ⟨l, ?_, h64, rfl⟩
        congr 1
        apply Array.ext'
        exact deU8_inv hl
      · cases h
    · cases h
  · cases h
theorem blkElem_inv {v : Value} {l : List UInt8} {ps : List MemPlace} (h : blkElem v = some (.lit (.string l), ps)) : v = bkv l ∧ l.length = 64 := by
  obtain ⟨l', h1, h2, h3⟩ := blkElem_any h
  cases h3
  exact ⟨h1, h2⟩
end Go.Proofs.YtdhnidmeeocajaaGreat
end
section
namespace Go.Proofs.YtdhnidmeeocajaaGreat
open Go.RowKit
open Go.ChangeMaps (setBlock heap_setBlock_same heap_setBlock_other)

theorem i64_wf {q : Int} (h1 : -9223372036854775808 ≤ q) (h2 : q ≤ 9223372036854775807) : (Lit.int .i64 q).wf = true := by
  have e1 : IntKind.i64.min = -9223372036854775808 := by decide
  have e2 : IntKind.i64.max = 9223372036854775807 := by decide
  simp only [Lit.wf, e1, e2]
  simp [h1, h2]
theorem int_key {q : Int} (h1 : -9223372036854775808 ≤ q) (h2 : q ≤ 9223372036854775807) : keyOf Tryz.prog 3 (.int .i64 q) = some (.int .i64 q) :=
  Go.Maps.keyOf_int_mk Tryz.underlying3 (i64_wf h1 h2)
theorem int_keyed1 : Go.Maps.Keyed Tryz.prog 3 := Go.Maps.int_keyed Tryz.underlying3

/-- D is a map of blocks below n to bytes, as G says. -/
structure MapD (D : DataW Unit) (n : Nat) (G : Nat → Option (List UInt8)) : Prop where
  tidy : Go.Maps.Tidy D
  keys : ∀ p : Lit, Go.Maps.has D p = true → ∃ k : Nat, k < n ∧ p = .int .i64 (k : Int)
  has : ∀ k : Nat, Go.Maps.has D (.int .i64 (k : Int)) = (G k).isSome
  val : ∀ (k : Nat) (l : List UInt8), G k = some l → l.length = 64 ∧ ∀ zd, D.atKey (.int .i64 (k : Int)) zd = .lit (.string l)
/-- Block b is such a map. -/
def MapB (w : World) (b n : Nat) (G : Nat → Option (List UInt8)) : Prop := ∃ m D, w.ownsMap Tryz.prog 3 blkElem b m D ∧ MapD D n G

section
variable {w w' : World} {b n : Nat} {G : Nat → Option (List UInt8)} {D : DataW Unit}
theorem MapD.entries (h : MapD D n G) {m : Nat} (ho : w.ownsMap Tryz.prog 3 blkElem b m D) : ∃ es, D = .map es ∧ es.Pairwise (fun p q => p.1 ≠ q.1) ∧ ∀ p ∈ es, ∃ k : Nat, k < n ∧ p.1 = .int .i64 (k : Int) := by
  obtain ⟨es, rfl, hp, hl⟩ := ho.entries int_keyed1
  refine ⟨es, rfl, hp, fun p hp' => h.keys p.1 ?_⟩
  rw [Go.Maps.has_eq, List.any_eq_true]
  exact ⟨p, hp', WideAt.sameKey_self (hl p hp')⟩
theorem MapD.size (h : MapD D n G) {m : Nat} (ho : w.ownsMap Tryz.prog 3 blkElem b m D) : Go.Maps.size D ≤ n := by
  obtain ⟨es, rfl, hp, hk⟩ := h.entries ho
  rw [Go.Maps.size_eq]
  have hn : (es.map fun p => (Go.intOf p.1).toNat).Nodup := by
    refine List.pairwise_map.2 (hp.imp_of_mem fun {p q} hp' hq' hne e => hne ?_)
    obtain ⟨a, _, ha⟩ := hk p hp'
    obtain ⟨c, _, hc⟩ := hk q hq'
    rw [ha, hc] at e ⊢
    simp [Go.intOf] at e
    rw [e]
  have hs : (es.map fun p => (Go.intOf p.1).toNat) ⊆ List.range n := by
    intro x hx
    obtain ⟨p, hp', rfl⟩ := List.mem_map.1 hx
    obtain ⟨a, ha, e⟩ := hk p hp'
    rw [e, List.mem_range]
    simpa [Go.intOf] using ha
  have := hn.length_le_of_subset hs
  simpa using this
/-- The keys, as they stand. -/
theorem MapD.keysP (h : MapD D n G) {m : Nat} (ho : w.ownsMap Tryz.prog 3 blkElem b m D) : (intKeys D).Perm (((List.range n).filter fun k => (G k).isSome).map Int.ofNat) := by
  obtain ⟨es, rfl, hp, hk⟩ := h.entries ho
  refine (perm_intKeys hp (fun p hp' => by obtain ⟨k, _, e⟩ := hk p hp'; exact ⟨_, e⟩) (ss := ((List.range n).filter fun k => (G k).isSome).map Int.ofNat) ?_ fun x => ?_).symm
  · exact List.pairwise_map.2 (((List.pairwise_lt_range).filter _).imp fun {a c} hac e => by simp at e; omega)
  · rw [List.mem_map]
    constructor
    · rintro ⟨k, hk', rfl⟩
      rw [List.mem_filter] at hk'
      exact (h.has k).trans hk'.2
    · intro hx
      obtain ⟨k, hkn, e⟩ := h.keys _ hx
      simp only [Lit.int.injEq, true_and] at e
      subst e
      exact ⟨k, List.mem_filter.2 ⟨List.mem_range.2 hkn, (h.has k).symm.trans hx⟩, rfl⟩
theorem size_intKeys (h : Go.Maps.IsMap D) : (intKeys D).length = Go.Maps.size D := by
  obtain ⟨es, rfl⟩ := h
  simp [intKeys, Go.Maps.size]
theorem MapD.count (h : MapD D n G) {m : Nat} (ho : w.ownsMap Tryz.prog 3 blkElem b m D) : Go.Maps.size D = ((List.range n).filter fun k => (G k).isSome).length := by
  rw [← size_intKeys h.tidy.isMap, (h.keysP ho).length_eq, List.length_map]
theorem ownsMap_less {m : Nat} (ho : w.ownsMap Tryz.prog 3 blkElem b m D) : w.ownsMap Tryz.prog 3 blkElem b (Go.Maps.size D) D := by
  obtain ⟨es, clock, h1, h2, h3, rfl⟩ := ho
  refine ⟨es, clock, h1, h2, ?_, rfl⟩
  simp [Go.Maps.size, length_sorted]
theorem MapB.lt (h : MapB w b n G) : b < w.heap.size := by
  obtain ⟨m, D, h1, _⟩ := h
  exact h1.lt
theorem MapB.keepB (h : MapB w b n G) (e : w'.heap[b]? = w.heap[b]?) : MapB w' b n G := by
  obtain ⟨m, D, ⟨es, clock, h1, r⟩, h2⟩ := h
  exact ⟨m, D, ⟨es, clock, e.trans h1, r⟩, h2⟩
theorem MapB.keep {X : Nat → Prop} (h : MapB w b n G) (hf : Frm X w w') (hn : ¬ X b) : MapB w' b n G := h.keepB (hf.block b h.lt hn)
theorem MapD.nil_ (n : Nat) : MapD (.map []) n (fun _ => none) :=
  ⟨Go.Maps.tidy_empty, fun p h => (by cases h), fun k => rfl, fun k l h => (by cases h)⟩
theorem MapB.made (w : World) (n : Nat) : MapB (w.alloc (.map #[] 0)) w.heap.size n (fun _ => none) :=
  ⟨0, .map [], World.ownsMap_made w _ _ _, MapD.nil_ n⟩
theorem MapB.congr {G' : Nat → Option (List UInt8)} (h : MapB w b n G) (e : ∀ k, G' k = G k) : MapB w b n G' := by
  have : G' = G := funext e
  rw [this]; exact h
theorem zero_blk (w : World) : (zeroValue 112).run Tryz.prog w = .ok (bkv zb) w := by
  simp [Tryz.zeroValue112, zb, u8s, go_sem]
theorem MapD.look (h : MapD D n G) (k : Nat) {v : Value} {ps : List MemPlace} (hv : blkElem v = some (D.atKey (.int .i64 (k : Int)) (.lit (.string zb)), ps)) : v = bkv ((G k).getD zb) := by
  cases e : G k with
  | none =>
    have h1 := h.has k
    rw [e] at h1
    rw [Go.Maps.atKey_of_not_has h1] at hv
    exact (blkElem_inv hv).1
  | some l =>
    rw [(h.val k l e).2] at hv
    exact (blkElem_inv hv).1
/-- m[k]. -/
theorem MapB.look (h : MapB w b n G) (k : Nat) (hk : k ≤ 9223372036854775807) : (Instr.lookup 73 (.map (some b)) (.int .i64 (k : Int)) false).run Tryz.prog w = .ok (bkv ((G k).getD zb)) w := by
  obtain ⟨m, D, h1, h2⟩ := h
  obtain ⟨v, ps, hrun, hv⟩ := h1.lookup int_keyed1 Tryz.underlying73 (zero_blk w) (blkElem_mk zb_len) (int_key (q := (k : Int)) (by omega) (by omega))
  rw [h2.look k hv] at hrun
  exact hrun
/-- v, is := m[k]. -/
theorem MapB.lookOk (h : MapB w b n G) (k : Nat) (hk : k ≤ 9223372036854775807) : (Instr.lookup 73 (.map (some b)) (.int .i64 (k : Int)) true).run Tryz.prog w = .ok (.tuple #[bkv ((G k).getD zb), .bool (G k).isSome]) w := by
  obtain ⟨m, D, h1, h2⟩ := h
  obtain ⟨v, ps, hrun, hv⟩ := h1.look_ok int_keyed1 Tryz.underlying73 (zero_blk w) (blkElem_mk zb_len) (int_key (q := (k : Int)) (by omega) (by omega))
  rw [h2.look k hv, h2.has k] at hrun
  exact hrun
theorem MapD.put (h : MapD D n G) (k : Nat) (hk : k < n) (l : List UInt8) (hl : l.length = 64) (hkk : n ≤ 9223372036854775807) : MapD (D.put (.int .i64 (k : Int)) (.lit (.string l))) n (fun j => if j = k then some l else G j) := by
  have hkl : WideAt.IsKeyLit (.int .i64 (k : Int)) := int_keyed1.key (int_key (q := (k : Int)) (by omega) (by omega))
  have hne : ∀ j : Nat, j ≠ k → (Lit.int .i64 (j : Int)) ≠ .int .i64 (k : Int) := fun j hj e => hj (by simp only [Lit.int.injEq, true_and] at e; omega)
  refine ⟨h.tidy.put hkl _, fun p hp => ?_, fun j => ?_, fun j l' hj => ?_⟩
  · by_cases e : p = .int .i64 (k : Int)
    · exact ⟨k, hk, e⟩
    · rw [Go.Maps.has_put_other e] at hp
      exact h.keys p hp
  · by_cases e : j = k
    · subst e
      rw [Go.Maps.has_put_same h.tidy.isMap hkl, if_pos rfl]
      rfl
    · rw [Go.Maps.has_put_other (hne j e), if_neg e]
      exact h.has j
  · by_cases e : j = k
    · subst e
      rw [if_pos rfl] at hj
      cases hj
      exact ⟨hl, fun zd => Go.Maps.atKey_put_same h.tidy.isMap hkl _ _⟩
    · rw [if_neg e] at hj
      obtain ⟨h1, h2⟩ := h.val j l' hj
      exact ⟨h1, fun zd => (Go.Maps.atKey_put_other (hne j e) _ _).trans (h2 zd)⟩
theorem MapD.del (h : MapD D n G) (k : Nat) : MapD (D.del (.int .i64 (k : Int))) n (fun j => if j = k then none else G j) := by
  have hne : ∀ j : Nat, j ≠ k → (Lit.int .i64 (j : Int)) ≠ .int .i64 (k : Int) := fun j hj e => hj (by simp only [Lit.int.injEq, true_and] at e; omega)
  refine ⟨h.tidy.del _, fun p hp => ?_, fun j => ?_, fun j l' hj => ?_⟩
  · by_cases e : p = .int .i64 (k : Int)
    · rw [e, Go.Maps.has_del_same] at hp
      cases hp
    · rw [Go.Maps.has_del_other e] at hp
      exact h.keys p hp
  · by_cases e : j = k
    · subst e
      rw [Go.Maps.has_del_same, if_pos rfl]
      rfl
    · rw [Go.Maps.has_del_other (hne j e), if_neg e]
      exact h.has j
  · by_cases e : j = k
    · subst e
      rw [if_pos rfl] at hj
      cases hj
    · rw [if_neg e] at hj
      obtain ⟨h1, h2⟩ := h.val j l' hj
      exact ⟨h1, fun zd => (Go.Maps.atKey_del_other (hne j e) _).trans (h2 zd)⟩
theorem turned_frm {b : Nat} (h : w.mapTurned w' b) : Frm (· = b) w w' ∧ w'.heap.size = w.heap.size := by
  obtain ⟨es, clock, es', clock', hb, rfl⟩ := h
  exact ⟨⟨rfl, rfl, rfl, by simp [setBlock], fun k _ hk => heap_setBlock_other hb _ hk⟩, by simp [setBlock]⟩
/-- m[k] = l. -/
theorem MapB.store (h : MapB w b n G) (hn : n ≤ 4096) (k : Nat) (hk : k < n) (l : List UInt8) (hl : l.length = 64) :
    ∃ w', (Instr.mapUpdate 73 (.map (some b)) (.int .i64 (k : Int)) (bkv l)).run Tryz.prog w = .ok () w' ∧ MapB w' b n (fun j => if j = k then some l else G j) ∧ Frm (· = b) w w' ∧ w'.heap.size = w.heap.size := by
  obtain ⟨m, D, h1, h2⟩ := h
  have hs := h2.size h1
  obtain ⟨w', hrun, ho, ht⟩ := (ownsMap_less h1).store int_keyed1 Tryz.underlying73 (by unfold maxLen; omega) (int_key (q := (k : Int)) (by omega) (by omega)) (blkElem_mk hl)
  exact ⟨w', hrun, ⟨_, _, ho, h2.put k hk l hl (by omega)⟩, turned_frm ht⟩
/-- delete(m, k). -/
theorem MapB.drop (h : MapB w b n G) (k : Nat) (hk : k ≤ 9223372036854775807) (ty : TypeId) :
    ∃ w', (Builtin.delete_ #[73, 3] ty #[.map (some b), .int .i64 (k : Int)]).run Tryz.prog w = .ok (.tuple #[]) w' ∧ MapB w' b n (fun j => if j = k then none else G j) ∧ Frm (· = b) w w' ∧ w'.heap.size = w.heap.size := by
  obtain ⟨m, D, h1, h2⟩ := h
  obtain ⟨w', hrun, ho, ht⟩ := h1.drop int_keyed1 Tryz.underlying73 (int_key (q := (k : Int)) (by omega) (by omega)) ty
  exact ⟨w', hrun, ⟨_, _, ho, h2.del k⟩, turned_frm ht⟩
/-- clear(m). -/
theorem MapB.clear (h : MapB w b n G) (ty : TypeId) :
    ∃ w', (Builtin.clear_ #[73] ty #[.map (some b)]).run Tryz.prog w = .ok (.tuple #[]) w' ∧ MapB w' b n (fun _ => none) ∧ Frm (· = b) w w' ∧ w'.heap.size = w.heap.size := by
  obtain ⟨m, D, ⟨es, clock, hb, hF, _⟩, h2⟩ := h
  refine ⟨setBlock w b (.map #[] clock), ?_, ⟨0, .map [], ⟨#[], clock, heap_setBlock_same hb _, ?_, Nat.le_refl _, rfl⟩, MapD.nil_ n⟩, turned_frm ⟨es, clock, _, _, hb, rfl⟩⟩
  · simp [Builtin.clear_, run_underlying Tryz.underlying73, MapKept.run_getObj_map hb, MapKept.run_setObj_map _ hb, Result.andThen, setBlock]
  · exact ⟨Nat.zero_le _, MapKept.stamped_empty clock, fun x hx => by simp at hx⟩
/-- len(m). -/
theorem MapB.len (h : MapB w b n G) (ty : TypeId) : (Builtin.len_ #[73] ty #[.map (some b)]).run Tryz.prog w = .ok (.int .i64 (((List.range n).filter fun k => (G k).isSome).length : Nat)) w := by
  obtain ⟨m, D, h1, h2⟩ := h
  rw [h1.len Tryz.underlying73 ty, h2.count h1]
end
end Go.Proofs.YtdhnidmeeocajaaGreat
end
