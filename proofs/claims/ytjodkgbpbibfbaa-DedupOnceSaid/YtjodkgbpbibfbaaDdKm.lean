/- What the statement DedupOnce keeps in memory: a table, and what is held of it. No condition. -/
import Derived.Test.YtjodkgbpbibfbaaDdK
import Derived.Test.YtjodkgbpbibfbaaStrs
import Derived.Deep.MidRow
namespace Go.Proofs.Ytjodkgbpbibfbaa
open Go.RowKit

/-- The table at b, the list v, apart, all above w0. -/
structure MemS (w0 w : World) (b : Nat) (T : TbV) (A : List HdV) (v : Value) (fp : Nat → Prop) : Prop where
  t : TabM w b T fp
  o : OwnH w v A
  ap : ∀ g, v.ownBlock = some g → ¬ fp g
  lf : ∀ j, fp j → w0.heap.size ≤ j
  lv : ∀ g, v.ownBlock = some g → w0.heap.size ≤ g
  f : Frm (fun _ => False) w0 w
section
variable {w0 w w' : World} {b : Nat} {T T' : TbV} {A A' : List HdV} {v v' : Value} {fp : Nat → Prop}
theorem MemS.keepF (h : MemS w0 w b T A v fp) (g : Frm (fun _ => False) w w') : MemS w0 w' b T A v fp := ⟨h.t.keepF g, h.o.keepF g, h.ap, h.lf, h.lv, h.f.trans g⟩
theorem MemS.tab (h : MemS w0 w b T A v fp) (h1 : TabTo b fp T' w w') : ∃ fp', MemS w0 w' b T' A v fp' := by
  obtain ⟨fp', t1, f1, n1⟩ := h1
  have hv := Row.blk h.o
  have hs := h.f.size
  exact ⟨fp', t1, h.o.keep f1 h.ap, fun g hg e => (n1 g e).elim (h.ap g hg) (fun e => by have := hv g hg; omega), fun j hj => (n1 j hj).elim (h.lf j) (fun e => by omega), h.lv, h.f.next f1 fun j hj e => by have := h.lf j e; omega⟩
theorem MemS.own (h : MemS w0 w b T A v fp) (ho : OwnH w' v' A') (f : Frm (fun q => v.ownBlock = some q) w w') (hb : ∀ g, v'.ownBlock = some g → v.ownBlock = some g ∨ w.heap.size ≤ g) : MemS w0 w' b T A' v' fp := by
  have hs := h.f.size
  exact ⟨h.t.keep f fun k hk e => h.ap k e hk, ho, fun g hg e => (hb g hg).elim (fun e2 => h.ap g e2 e) (fun e2 => by have := h.t.lt g e; omega), h.lf, fun g hg => (hb g hg).elim (h.lv g) (fun e => by omega), h.f.next f fun j hj e => by have := h.lv j e; omega⟩
theorem MemS.refs {g cap : Nat} (h : MemS w0 w b T A (.slice (some ⟨g, 0, none⟩) A.length cap) fp) {j : Nat} (hj : j < A.length) (n : Nat) : MemS w0 (w.setCell ⟨g, j * 4 + 3, none⟩ (.int .i64 (n : Nat))) b T (A.set j { A[j] with r := n }) (.slice (some ⟨g, 0, none⟩) A.length cap) fp :=
  h.own (h.o.cell j hj { A[j] with r := n } 3 (by decide) _ rfl) ((Frm.refl (fun q => (Value.slice (some ⟨g, 0, none⟩) A.length cap).ownBlock = some q) w).setCell (p := ⟨g, j * 4 + 3, none⟩) (fun _ => rfl) _) (fun g' hg => .inl hg)
end
/-- A content is stored. -/
theorem wpl_store_held {ops : Array Oper} {rest : List Oper} {o : Oper} {a : Act} {w : World} {Q : Exit → Act → World → Prop} (hgd : o.guard = none) (x y : Operand) (ho : o.op = .store 47 x y) (g cap k : Nat) (A : List HdV) (u : HdV)
    (hx : a.eval x = .pointer (some ⟨g, k * 4, none⟩)) (hy : a.eval y = .agg #[.string (bs u.s), .int .u32 (u.id : Nat), .int .i64 u.b, .int .i64 (u.r : Nat)]) (h : OwnH w (.slice (some ⟨g, 0, none⟩) A.length cap) A) (hk : k < A.length)
    (hK : ∀ w', OwnH w' (.slice (some ⟨g, 0, none⟩) A.length cap) (A.set k u) → Frm (fun q => q = g) w w' → w'.heap.size = w.heap.size → wpList Try.prog ops Q rest (a.put o.dst undef) w') : wpList Try.prog ops Q (o :: rest) a w := by
  obtain ⟨g', e, _, c0, c1, c2, c3, hf⟩ := h.at_ k hk
  cases e
  refine wpList_store_mid hgd 47 x y ho g (k * 4) #[.string (bs u.s), .int .u32 (u.id : Nat), .int .i64 u.b, .int .i64 (u.r : Nat)] hx hy (fun j hj => ?_) (by show _ = some 4; kernel_rfl) (by simp [Value.oneCell']) ?_
  · have hj : j < 4 := hj
    refine ⟨?_, hf j hj⟩
    have : j = 0 ∨ j = 1 ∨ j = 2 ∨ j = 3 := by omega
    rcases this with rfl | rfl | rfl | rfl
    · rw [Nat.add_zero, c0]; rfl
    · rw [c1]; rfl
    · rw [c2]; rfl
    · rw [c3]; rfl
  · have z := setCells_rest g [.string (bs u.s), .int .u32 (u.id : Nat), .int .i64 u.b, .int .i64 (u.r : Nat)] (k * 4) w
    refine hK _ ?_ ⟨z.1, z.2.1, z.2.2.1, by rw [z.2.2.2]; exact Nat.le_refl _, fun j _ hj => setCells_blk g _ _ w j hj⟩ z.2.2.2
    have h1 := h.cell k hk { A[k] with s := u.s } 0 (by decide) (.string (bs u.s)) rfl
    have l1 : (A.set k { A[k] with s := u.s }).length = A.length := List.length_set
    rw [← l1] at h1
    have h2 := h1.cell k (by rw [l1]; exact hk) { A[k] with s := u.s, id := u.id } 1 (by decide) (.int .u32 (u.id : Nat)) (by rw [List.getElem_set_self]; rfl)
    rw [List.set_set, l1] at h2
    have l2 : (A.set k { A[k] with s := u.s, id := u.id }).length = A.length := List.length_set
    rw [← l2] at h2
    have h3 := h2.cell k (by rw [l2]; exact hk) { A[k] with s := u.s, id := u.id, b := u.b } 2 (by decide) (.int .i64 u.b) (by rw [List.getElem_set_self]; rfl)
    rw [List.set_set, l2] at h3
    have l3 : (A.set k { A[k] with s := u.s, id := u.id, b := u.b }).length = A.length := List.length_set
    rw [← l3] at h3
    have h4 := h3.cell k (by rw [l3]; exact hk) u 3 (by decide) (.int .i64 (u.r : Nat)) (by rw [List.getElem_set_self]; rfl)
    rw [List.set_set, l3] at h4
    exact h4
end Go.Proofs.Ytjodkgbpbibfbaa
