/- A map from ids to chunks, as it lies in memory; what an index has of a table's chunks. Of no function of the program. No condition. -/
import Derived.Test.YtjodkgbpbibfbaaDdM
import Derived.Test.YtjodkgbpbibfbaaHashM
import Derived.Test.YtjodkgbpbibfbaaConv
import Derived.Maps.Keyed
import Derived.Maps.Own
import Derived.Maps.OwnSet
import Derived.Maps.Range
import Derived.Maps.Views
import Derived.Maps.Ext
namespace Go.Proofs.Ytjodkgbpbibfbaa
open Go.RowKit
open Go.ChangeMaps (setBlock heap_setBlock_same heap_setBlock_other)

theorem u32_wf {q : Nat} (h : q ≤ 4294967295) : (Lit.int .u32 (q : Int)).wf = true := by
  have h1 : IntKind.u32.min = 0 := by decide
  have h2 : IntKind.u32.max = 4294967295 := by decide
  simp [Lit.wf, h1, h2]; omega
theorem u32_key (q : Nat) (h : q ≤ 4294967295) : keyOf Try.prog 29 (.int .u32 (q : Int)) = some (.int .u32 (q : Int)) := Go.Maps.keyOf_int_mk Try.underlying29 (u32_wf h)
theorem u32_keyed : Go.Maps.Keyed Try.prog 29 := Go.Maps.int_keyed Try.underlying29
/-- A chunk but for its id, as a map's element: its value, how it reads. -/
abbrev chv (x : ChV) : Value := .agg #[.string (bs x.s), .int .i64 x.b, .int .i64 (x.r : Nat)]
def chD (x : ChV) : DataW Unit := .agg [.lit (.string x.s), .lit (.int .i64 x.b), .lit (.int .i64 (x.r : Nat))]
def chElem (v : Value) : Option (DataW Unit × List MemPlace) := match v with
  | .agg cs => match cs.toList with
    | [.string s, .int .i64 b, .int .i64 r] => some (.agg [.lit (.string s.data.toList), .lit (.int .i64 b), .lit (.int .i64 r)], [])
    | _ => none
  | _ => none
theorem chElem_mk (x : ChV) : chElem (chv x) = some (chD x, []) := rfl
theorem chElem_inv {v : Value} {x : ChV} {ps : List MemPlace} (h : chElem v = some (chD x, ps)) : v = chv x := by
  unfold chElem at h
  split at h
  · rename_i cs
    split at h
    · rename_i s b r hl
      simp only [Option.some.injEq, Prod.mk.injEq, chD, DataW.agg.injEq, List.cons.injEq, DataW.lit.injEq, Lit.string.injEq, Lit.int.injEq, true_and, and_true] at h
      obtain ⟨⟨h1, rfl, rfl⟩, _⟩ := h
      congr 1
      apply Array.ext'
      rw [hl]
      have : s = bs x.s := by rw [← h1]; rfl
      rw [this]
    · cases h
  · cases h
/-- No chunk's element: zeros. -/
def zCh : ChV := ⟨0, [], 0, 0⟩
/-- D is a map of ids to chunks, as G says. -/
structure MapC (D : DataW Unit) (G : Nat → Option ChV) : Prop where
  tidy : Go.Maps.Tidy D
  keys : ∀ p : Lit, Go.Maps.has D p = true → ∃ k : Nat, k ≤ 4294967295 ∧ p = .int .u32 (k : Int)
  has : ∀ k : Nat, Go.Maps.has D (.int .u32 (k : Int)) = (G k).isSome
  val : ∀ (k : Nat) (x : ChV), G k = some x → ∀ zd, D.atKey (.int .u32 (k : Int)) zd = chD x
/-- Block b is such a map. -/
def MapH (w : World) (b : Nat) (G : Nat → Option ChV) : Prop := ∃ m D, w.ownsMap Try.prog 29 chElem b m D ∧ MapC D G
section
variable {w w' : World} {b : Nat} {G : Nat → Option ChV} {D : DataW Unit}
theorem MapC.entries (h : MapC D G) {m : Nat} (ho : w.ownsMap Try.prog 29 chElem b m D) : ∃ es, D = .map es ∧ es.Pairwise (fun p q => p.1 ≠ q.1) ∧ ∀ p ∈ es, ∃ k : Nat, p.1 = .int .u32 (k : Int) ∧ (G k).isSome = true := by
  obtain ⟨es, rfl, hp, hl⟩ := ho.entries u32_keyed
  refine ⟨es, rfl, hp, fun p hp' => ?_⟩
  have hh : Go.Maps.has (.map es) p.1 = true := by
    rw [Go.Maps.has_eq, List.any_eq_true]
    exact ⟨p, hp', WideAt.sameKey_self (hl p hp')⟩
  obtain ⟨k, _, e⟩ := h.keys p.1 hh
  rw [e, h.has] at hh
  exact ⟨k, e, hh⟩
def litN : Lit → Nat
  | .int _ z => z.toNat
  | _ => 0
/-- As many entries as there are ids. -/
theorem MapC.count (h : MapC D G) {m : Nat} (ho : w.ownsMap Try.prog 29 chElem b m D) {ks : List Nat} (hn : ks.Nodup) (hk : ∀ k, k ∈ ks ↔ (G k).isSome = true) : Go.Maps.size D = ks.length := by
  obtain ⟨es, rfl, hp, hl⟩ := h.entries ho
  rw [Go.Maps.size_eq]
  have e1 : (es.map fun p => litN p.1).Perm ks := by
    rw [List.perm_ext_iff_of_nodup]
    · intro k
      rw [hk, List.mem_map]
      constructor
      · rintro ⟨p, hp', rfl⟩
        obtain ⟨q, e, hq⟩ := hl p hp'
        rw [e]
        simpa [litN] using hq
      · intro hg
        have hh := (h.has k).trans hg
        rw [Go.Maps.has_eq, List.any_eq_true] at hh
        obtain ⟨p, hp', e⟩ := hh
        obtain ⟨q, e2, _⟩ := hl p hp'
        refine ⟨p, hp', ?_⟩
        have e3 : p.1 = .int .u32 (k : Int) := WideAt.sameKey_eq e
        rw [e3]
        simp [litN]
    · refine List.pairwise_map.2 (hp.imp_of_mem fun {p q} hp' hq' hne e => hne ?_)
      obtain ⟨a, ha, _⟩ := hl p hp'
      obtain ⟨c, hc, _⟩ := hl q hq'
      rw [ha, hc] at e ⊢
      simp [litN] at e
      rw [e]
    · exact hn
  have := e1.length_eq
  rw [List.length_map] at this
  exact this
theorem ownsMap_lessC {m : Nat} (ho : w.ownsMap Try.prog 29 chElem b m D) : w.ownsMap Try.prog 29 chElem b (Go.Maps.size D) D := by
  obtain ⟨es, clock, h1, h2, h3, rfl⟩ := ho
  refine ⟨es, clock, h1, h2, ?_, rfl⟩
  simp [Go.Maps.size, length_sorted]
theorem MapH.lt (h : MapH w b G) : b < w.heap.size := by
  obtain ⟨m, D, h1, _⟩ := h
  exact h1.lt
theorem MapH.keepB (h : MapH w b G) (e : w'.heap[b]? = w.heap[b]?) : MapH w' b G := by
  obtain ⟨m, D, ⟨es, clock, h1, r⟩, h2⟩ := h
  exact ⟨m, D, ⟨es, clock, e.trans h1, r⟩, h2⟩
theorem MapH.keep {X : Nat → Prop} (h : MapH w b G) (hf : Frm X w w') (hn : ¬ X b) : MapH w' b G := h.keepB (hf.block b h.lt hn)
theorem MapC.nil_ : MapC (.map []) (fun _ => none) :=
  ⟨Go.Maps.tidy_empty, fun p h => (by cases h), fun k => rfl, fun k l h => (by cases h)⟩
theorem MapH.made (w : World) : MapH (w.alloc (.map #[] 0)) w.heap.size (fun _ => none) :=
  ⟨0, .map [], World.ownsMap_made w _ _ _, MapC.nil_⟩
theorem MapH.congr {G' : Nat → Option ChV} (h : MapH w b G) (e : ∀ k, G' k = G k) : MapH w b G' := by
  have : G' = G := funext e
  rw [this]; exact h
theorem zero_chunk (w : World) : (zeroValue 79).run Try.prog w = .ok (chv zCh) w := by
  have e : bs ([] : List UInt8) = ⟨#[]⟩ := rfl
  simp [Try.zeroValue79, zCh, e, go_sem]
theorem MapC.look (h : MapC D G) (k : Nat) {v : Value} {ps : List MemPlace} (hv : chElem v = some (D.atKey (.int .u32 (k : Int)) (chD zCh), ps)) : v = chv ((G k).getD zCh) := by
  cases e : G k with
  | none =>
    have h1 := h.has k
    rw [e] at h1
    rw [Go.Maps.atKey_of_not_has h1] at hv
    exact chElem_inv hv
  | some l =>
    rw [h.val k l e] at hv
    exact chElem_inv hv
/-- m[k]. -/
theorem MapH.look (h : MapH w b G) (k : Nat) (hk : k ≤ 4294967295) : (Instr.lookup 61 (.map (some b)) (.int .u32 (k : Int)) false).run Try.prog w = .ok (chv ((G k).getD zCh)) w := by
  obtain ⟨m, D, h1, h2⟩ := h
  obtain ⟨v, ps, hrun, hv⟩ := h1.lookup u32_keyed Try.underlying61 (zero_chunk w) (chElem_mk zCh) (u32_key k hk)
  rw [h2.look k hv] at hrun
  exact hrun
/-- v, is := m[k]. -/
theorem MapH.lookOk (h : MapH w b G) (k : Nat) (hk : k ≤ 4294967295) : (Instr.lookup 61 (.map (some b)) (.int .u32 (k : Int)) true).run Try.prog w = .ok (.tuple #[chv ((G k).getD zCh), .bool (G k).isSome]) w := by
  obtain ⟨m, D, h1, h2⟩ := h
  obtain ⟨v, ps, hrun, hv⟩ := h1.look_ok u32_keyed Try.underlying61 (zero_chunk w) (chElem_mk zCh) (u32_key k hk)
  rw [h2.look k hv, h2.has k] at hrun
  exact hrun
theorem MapC.put (h : MapC D G) (k : Nat) (hk : k ≤ 4294967295) (x : ChV) : MapC (D.put (.int .u32 (k : Int)) (chD x)) (fun j => if j = k then some x else G j) := by
  have hkl : WideAt.IsKeyLit (.int .u32 (k : Int)) := u32_keyed.key (u32_key k hk)
  have hne : ∀ j : Nat, j ≠ k → (Lit.int .u32 (j : Int)) ≠ .int .u32 (k : Int) := fun j hj e => hj (by simp only [Lit.int.injEq, true_and] at e; omega)
  refine ⟨h.tidy.put hkl _, fun p hp => ?_, fun j => ?_, fun j l' hj => ?_⟩
  · by_cases e : p = .int .u32 (k : Int)
    · exact ⟨k, hk, e⟩
    · rw [Go.Maps.has_put_other e] at hp
      exact h.keys p hp
  · by_cases e : j = k
    · subst e
      rw [Go.Maps.has_put_same h.tidy.isMap hkl, if_pos rfl]
      rfl
    · rw [Go.Maps.has_put_other (hne j e), if_neg e]
      exact h.has j
  · by_cases e : j = k
    · subst e
      rw [if_pos rfl] at hj
      cases hj
      exact fun zd => Go.Maps.atKey_put_same h.tidy.isMap hkl _ _
    · rw [if_neg e] at hj
      exact fun zd => (Go.Maps.atKey_put_other (hne j e) _ _).trans (h.val j l' hj zd)
theorem MapC.del (h : MapC D G) (k : Nat) : MapC (D.del (.int .u32 (k : Int))) (fun j => if j = k then none else G j) := by
  have hne : ∀ j : Nat, j ≠ k → (Lit.int .u32 (j : Int)) ≠ .int .u32 (k : Int) := fun j hj e => hj (by simp only [Lit.int.injEq, true_and] at e; omega)
  refine ⟨h.tidy.del _, fun p hp => ?_, fun j => ?_, fun j l' hj => ?_⟩
  · by_cases e : p = .int .u32 (k : Int)
    · rw [e, Go.Maps.has_del_same] at hp
      cases hp
    · rw [Go.Maps.has_del_other e] at hp
      exact h.keys p hp
  · by_cases e : j = k
    · subst e
      rw [Go.Maps.has_del_same, if_pos rfl]
      rfl
    · rw [Go.Maps.has_del_other (hne j e), if_neg e]
      exact h.has j
  · by_cases e : j = k
    · subst e
      rw [if_pos rfl] at hj
      cases hj
    · rw [if_neg e] at hj
      exact fun zd => (Go.Maps.atKey_del_other (hne j e) _).trans (h.val j l' hj zd)
theorem turned_frmC {b : Nat} (h : w.mapTurned w' b) : Frm (· = b) w w' ∧ w'.heap.size = w.heap.size := by
  obtain ⟨es, clock, es', clock', hb, rfl⟩ := h
  exact ⟨⟨rfl, rfl, rfl, by simp [setBlock], fun k _ hk => heap_setBlock_other hb _ hk⟩, by simp [setBlock]⟩
/-- m[k] = x. -/
theorem MapH.store (h : MapH w b G) {ks : List Nat} (hn : ks.Nodup) (hks : ∀ k, k ∈ ks ↔ (G k).isSome = true) (hl : ks.length ≤ 4294967296) (k : Nat) (hk : k ≤ 4294967295) (x : ChV) :
    ∃ w', (Instr.mapUpdate 61 (.map (some b)) (.int .u32 (k : Int)) (chv x)).run Try.prog w = .ok () w' ∧ MapH w' b (fun j => if j = k then some x else G j) ∧ Frm (· = b) w w' ∧ w'.heap.size = w.heap.size := by
  obtain ⟨m, D, h1, h2⟩ := h
  have hs := h2.count h1 hn hks
  obtain ⟨w', hrun, ho, ht⟩ := (ownsMap_lessC h1).store u32_keyed Try.underlying61 (by unfold maxLen; omega) (u32_key k hk) (chElem_mk x)
  exact ⟨w', hrun, ⟨_, _, ho, h2.put k hk x⟩, turned_frmC ht⟩
/-- delete(m, k). -/
theorem MapH.drop (h : MapH w b G) (k : Nat) (hk : k ≤ 4294967295) (ty : TypeId) :
    ∃ w', (Builtin.delete_ #[61, 29] ty #[.map (some b), .int .u32 (k : Int)]).run Try.prog w = .ok (.tuple #[]) w' ∧ MapH w' b (fun j => if j = k then none else G j) ∧ Frm (· = b) w w' ∧ w'.heap.size = w.heap.size := by
  obtain ⟨m, D, h1, h2⟩ := h
  obtain ⟨w', hrun, ho, ht⟩ := h1.drop u32_keyed Try.underlying61 (u32_key k hk) ty
  exact ⟨w', hrun, ⟨_, _, ho, h2.del k⟩, turned_frmC ht⟩
/-- len(m). -/
theorem MapH.len (h : MapH w b G) {ks : List Nat} (hn : ks.Nodup) (hks : ∀ k, k ∈ ks ↔ (G k).isSome = true) (ty : TypeId) : (Builtin.len_ #[61] ty #[.map (some b)]).run Try.prog w = .ok (.int .i64 (ks.length : Nat)) w := by
  obtain ⟨m, D, h1, h2⟩ := h
  rw [h1.len Try.underlying61 ty, h2.count h1 hn hks]
end
section
variable {T : TbV}
theorem TbV.ids_nodup (h : T.ok) : (T.L.map ChV.id).Nodup := by
  rw [List.nodup_iff_pairwise_ne, List.pairwise_map]
  exact h.up.imp fun hab => by omega
theorem TbV.ids_iff (k : Nat) : k ∈ T.L.map ChV.id ↔ (T.get k).isSome = true := by
  rw [List.mem_map]
  constructor
  · rintro ⟨x, hx, rfl⟩
    cases e : T.get x.id with
    | none => exact absurd rfl (TbV.get_none.1 e x hx)
    | some y => rfl
  · intro h
    obtain ⟨x, hx⟩ := Option.isSome_iff_exists.1 h
    obtain ⟨h1, h2⟩ := TbV.get_some hx
    exact ⟨x, h1, h2⟩
/-- An index of a table's chunks: each by the bucket of its data. -/
def itC (x : ChV) : Nat × Nat := (bk x.s, x.id)
def IxT (I : List (Nat × Nat)) (T : TbV) : Prop := I.Perm (T.L.map itC)
theorem IxT.new : IxT [] TbV.new := List.Perm.nil
theorem IxT.len {I : List (Nat × Nat)} (h : IxT I T) : I.length = T.L.length := by rw [List.Perm.length_eq h, List.length_map]
theorem IxT.mem {I : List (Nat × Nat)} (h : IxT I T) (k i : Nat) : i ∈ sel I k ↔ ∃ x ∈ T.L, x.id = i ∧ bk x.s = k := by
  rw [mem_sel, List.Perm.mem_iff h, List.mem_map]
  constructor
  · rintro ⟨x, hx, e⟩
    cases e
    exact ⟨x, hx, rfl, rfl⟩
  · rintro ⟨x, hx, rfl, rfl⟩
    exact ⟨x, hx, rfl⟩
theorem IxT.put {I : List (Nat × Nat)} (h : IxT I T) (x : ChV) : IxT (I ++ [itC x]) (T.put x) := by
  unfold IxT
  show (I ++ [itC x]).Perm ((T.L.take (T.low x.id) ++ x :: T.L.drop (T.low x.id)).map itC)
  rw [List.map_append, List.map_cons]
  refine (List.perm_append_comm.trans ?_).trans List.perm_middle.symm
  show (itC x :: I).Perm _
  refine List.Perm.cons _ (List.Perm.trans h ?_)
  rw [← List.map_append, List.take_append_drop]
theorem IxT.same {I : List (Nat × Nat)} (h : IxT I T) {k n : Nat} (hk : k < T.L.length) {x : ChV} (h1 : x.id = T.L[k].id) (h2 : x.s = T.L[k].s) : IxT I ⟨T.L.set k x, n⟩ := by
  unfold IxT
  have e : (T.L.set k x).map itC = T.L.map itC := by
    rw [List.map_set]
    have : itC x = (T.L.map itC)[k]'(by rw [List.length_map]; exact hk) := by
      rw [List.getElem_map]
      unfold itC
      rw [h1, h2]
    rw [this, List.set_getElem_self]
  show I.Perm ((T.L.set k x).map itC)
  rw [e]
  exact h
theorem IxT.nx {I : List (Nat × Nat)} (h : IxT I T) (n : Nat) : IxT I ⟨T.L, n⟩ := h
theorem IxT.del {I : List (Nat × Nat)} (h : IxT I T) {k n : Nat} (hk : k < T.L.length) : IxT (I.erase (itC T.L[k])) ⟨T.L.eraseIdx k, n⟩ := by
  unfold IxT
  show (I.erase (itC T.L[k])).Perm ((T.L.eraseIdx k).map itC)
  have e : (T.L.map itC).Perm (itC T.L[k] :: (T.L.eraseIdx k).map itC) := by
    rw [← List.map_cons]
    refine List.Perm.map _ ?_
    rw [List.eraseIdx_eq_take_drop_succ]
    conv => lhs; rw [← List.take_append_drop k T.L, List.drop_eq_getElem_cons hk]
    exact List.perm_middle
  have := (List.Perm.trans h e).erase (itC T.L[k])
  rwa [List.erase_cons_head] at this
theorem IxT.fresh {I : List (Nat × Nat)} (h : IxT I T) {x : ChV} (h1 : ∀ y ∈ T.L, y.id ≠ x.id) : itC x ∉ I := fun hm => by
  rw [List.Perm.mem_iff h, List.mem_map] at hm
  obtain ⟨y, hy, e⟩ := hm
  exact h1 y hy (congrArg Prod.snd e)
theorem IxT.there {I : List (Nat × Nat)} (h : IxT I T) {k : Nat} (hk : k < T.L.length) : itC T.L[k] ∈ I := by
  rw [List.Perm.mem_iff h, List.mem_map]
  exact ⟨_, List.getElem_mem hk, rfl⟩
end
end Go.Proofs.Ytjodkgbpbibfbaa
