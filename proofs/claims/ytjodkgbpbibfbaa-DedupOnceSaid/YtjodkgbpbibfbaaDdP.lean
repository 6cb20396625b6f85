/- Chunks as they lie in memory: a slice that the call holds by itself; the document's table. No condition. -/
import Derived.Test.YtjodkgbpbibfbaaDdM
import Derived.Test.YtjodkgbpbibfbaaRow
import Derived.Test.YtjodkgbpbibfbaaTurn
import Derived.Deep.RegionLaw
namespace Go.Proofs.Ytjodkgbpbibfbaa
open Go.RowKit

theorem TbV.len_at {T : TbV} (h : T.ok) : ∀ (k : Nat) (hk : k < T.L.length), k + 1 ≤ T.L[k].id := by
  intro k
  induction k with
  | zero => intro hk; exact (h.ch _ (List.getElem_mem hk)).i1
  | succ k ih =>
    intro hk
    have h1 := ih (by omega)
    have h2 := List.pairwise_iff_getElem.1 h.up k (k + 1) (by omega) hk (by omega)
    omega
theorem TbV.len_lt {T : TbV} (h : T.ok) : T.L.length < T.nx := by
  by_cases hz : T.L.length = 0
  · have := h.n1; omega
  · have h1 := TbV.len_at h (T.L.length - 1) (by omega)
    have h2 := h.lt _ (List.getElem_mem (show T.L.length - 1 < T.L.length by omega))
    omega
def chc (x : ChV) : List Value := [.int .u32 (x.id : Nat), .string (bs x.s), .int .i64 x.b, .int .i64 (x.r : Nat)]
theorem chc_len (x : ChV) : (chc x).length = 4 := rfl
theorem chc_one : ∀ (x : ChV), ∀ u ∈ chc x, u.oneCell' = true := fun x u hu => by
  unfold chc at hu
  simp only [List.mem_cons, List.not_mem_nil, or_false] at hu
  rcases hu with rfl | rfl | rfl | rfl <;> rfl
theorem Row.setAtC {w : World} {size n : Nat} {xs : List Value} {g cap : Nat} (h : Row w size (.slice (some ⟨g, 0, none⟩) n cap) n xs) (j : Nat) (hj : j < n * size) (v : Value) : Row (w.setCell ⟨g, j, none⟩ v) size (.slice (some ⟨g, 0, none⟩) n cap) n (xs.set j v) := by
  refine ⟨by rw [List.length_set]; exact h.1, ?_⟩
  rcases h.2 with ⟨e, _⟩ | ⟨g', cap', e, h1, h2, h3, h4, h5⟩
  · cases e
  · cases e
    have hcap : n * size ≤ cap * size := Nat.mul_le_mul_right _ h1
    refine .inr ⟨g, cap, rfl, h1, h2, setCell_isCells _ _ h3, fun k hk => ?_, fun k hk => ?_⟩
    · by_cases e : k = j
      · subst e
        have hs := (h5 k (by omega)).1
        rw [World.cell?_setCell_same' _ _ _ hs, List.getElem?_set_self (by rw [h.1]; exact hj)]
      · rw [World.cell?_setCell_other _ _ _ _ (fun h => e (Addr.mk.inj h).2.1.symm), h4 k hk, List.getElem?_set_ne (fun h => e h.symm)]
    · rw [World.frozen?_setCell]
      refine ⟨?_, (h5 k hk).2⟩
      by_cases e : k = j
      · subst e
        rw [World.cell?_setCell_same' _ _ _ (h5 k hk).1]; rfl
      · rw [World.cell?_setCell_other _ _ _ _ (fun h => e (Addr.mk.inj h).2.1.symm)]; exact (h5 k hk).1
/-- Chunks in a slice that the call holds by itself. -/
def OwnC (w : World) (v : Value) (l : List ChV) : Prop := Row w 4 v l.length (flat chc l)
section
variable {w w' : World} {v : Value} {l : List ChV}
theorem OwnC.nil_ (w : World) : OwnC w (.slice none 0 0) [] := Row.nil_ w 4
theorem OwnC.keep {X : Nat → Prop} (h : OwnC w v l) (hf : Frm X w w') (hn : ∀ g, v.ownBlock = some g → ¬ X g) : OwnC w' v l := Row.keep h hf hn
theorem OwnC.keepF (h : OwnC w v l) (hf : Frm (fun _ => False) w w') : OwnC w' v l := Row.keep h hf (fun _ _ h => h)
theorem OwnC.slice (h : OwnC w v l) : ∃ a cap, v = .slice a l.length cap ∧ l.length ≤ cap ∧ cap ≤ maxLen := Row.slice h
/-- One chunk's cells. -/
theorem OwnC.at_ {a : Option Addr} {cap : Nat} (h : OwnC w (.slice a l.length cap) l) (k : Nat) (hk : k < l.length) : ∃ g, a = some ⟨g, 0, none⟩ ∧ g < w.heap.size ∧
    w.cell? ⟨g, k * 4, none⟩ = some (.int .u32 (l[k].id : Nat)) ∧ w.cell? ⟨g, k * 4 + 1, none⟩ = some (.string (bs l[k].s)) ∧ w.cell? ⟨g, k * 4 + 2, none⟩ = some (.int .i64 l[k].b) ∧ w.cell? ⟨g, k * 4 + 3, none⟩ = some (.int .i64 (l[k].r : Nat)) ∧
    (∀ j, j < 4 → w.frozen? ⟨g, k * 4 + j, none⟩ = false) := by
  have hb := Row.blk h
  obtain ⟨g, cap', e, h1, h2, hc⟩ := Row.elem chc chc_len h k hk
  cases e
  refine ⟨g, rfl, hb g rfl, hc 0 (by omega), hc 1 (by omega), hc 2 (by omega), hc 3 (by omega), fun j hj => ?_⟩
  rcases h.2 with ⟨e, _⟩ | ⟨g', cap', e, h1, h2, h3, h4, h5⟩
  · cases e
  · cases e
    refine (h5 (k * 4 + j) ?_).2
    have := Nat.mul_le_mul_right 4 (show k + 1 ≤ cap by omega)
    omega
theorem OwnC.sl (h : OwnC w v l) : Sl w 4 v l.length (flat chc l) := Sl.ofRow h
/-- The references of a chunk are stored anew. -/
theorem OwnC.refs {g cap : Nat} (h : OwnC w (.slice (some ⟨g, 0, none⟩) l.length cap) l) (k : Nat) (hk : k < l.length) (n : Nat) :
    OwnC (w.setCell ⟨g, k * 4 + 3, none⟩ (.int .i64 (n : Nat))) (.slice (some ⟨g, 0, none⟩) l.length cap) (l.set k { l[k] with r := n }) := by
  have hlt : k * 4 + 3 < l.length * 4 := by omega
  have e : flat chc (l.set k { l[k] with r := n }) = (flat chc l).set (k * 4 + 3) (.int .i64 (n : Nat)) := by
    apply List.ext_getElem?
    intro j
    by_cases hj : j < l.length * 4
    · have hq : j / 4 < l.length := by omega
      have hj2 : j = j / 4 * 4 + j % 4 := by omega
      have hr : j % 4 < 4 := Nat.mod_lt _ (by decide)
      have hL : (flat chc (l.set k { l[k] with r := n }))[j]? = (chc ((l.set k { l[k] with r := n })[j / 4]'(by rw [List.length_set]; exact hq)))[j % 4]? := by
        conv => lhs; rw [hj2]
        exact flat_at chc chc_len _ _ (by rw [List.length_set]; exact hq) _ hr
      have hR : (flat chc l)[j]? = (chc l[j / 4])[j % 4]? := by
        conv => lhs; rw [hj2]
        exact flat_at chc chc_len _ _ hq _ hr
      rw [hL, List.getElem?_set, List.getElem_set]
      by_cases ek : k = j / 4
      · rw [if_pos ek]
        subst ek
        by_cases e3 : j % 4 = 3
        · rw [if_pos (by omega), if_pos (by rw [flat_len chc chc_len]; exact hlt), e3]
          rfl
        · rw [if_neg (by omega), hR]
          have : j % 4 = 0 ∨ j % 4 = 1 ∨ j % 4 = 2 := by omega
          rcases this with e | e | e <;> rw [e] <;> rfl
      · rw [if_neg ek, if_neg (by omega), hR]
    · rw [List.getElem?_eq_none (by rw [flat_len chc chc_len, List.length_set]; omega), List.getElem?_eq_none (by rw [List.length_set, flat_len chc chc_len]; omega)]
  have := Row.setAtC h (k * 4 + 3) hlt (.int .i64 (n : Nat))
  unfold OwnC
  rw [List.length_set, e]
  exact this
end
theorem OwnC.cut {w : World} {a : Option Addr} {cap : Nat} {l : List ChV} (h : OwnC w (.slice a l.length cap) l) (i : Nat) (hi : i ≤ l.length) (hc : l.length ≤ cap) : Sl w 4 (.slice a i cap) (l.take i).length (flat chc (l.take i)) := by
  have := Sl.take h.sl i cap hi (by omega) (Nat.le_refl _)
  rw [List.length_take, Nat.min_eq_left hi]
  rwa [flat_take chc chc_len] at this
theorem OwnC.rest {w : World} {g cap : Nat} {l : List ChV} (h : OwnC w (.slice (some ⟨g, 0, none⟩) l.length cap) l) (i : Nat) (hi : i ≤ l.length) (hc : ¬ cap = i) : Sl w 4 (.slice (some ⟨g, i * 4, none⟩) (l.length - i) (cap - i)) (l.drop i).length (flat chc (l.drop i)) := by
  have := Sl.drop h.sl i hi
  rw [if_neg hc] at this
  rw [List.length_drop]
  rw [flat_drop chc chc_len] at this
  have e2 : (some (⟨g, 0, none⟩ : Addr)).map (·.add (i * 4)) = some ⟨g, i * 4, none⟩ := by
    unfold Addr.add
    by_cases h0 : i = 0
    · subst h0; simp
    · have h1 : ¬ i * 4 = 0 := by omega
      simp [h1]
  rwa [e2] at this
theorem OwnC.rest0 {w : World} {a : Option Addr} {cap : Nat} {l : List ChV} (hc : cap ≤ maxLen) (i : Nat) (hi : l.length = i) : Sl w 4 (.slice a (l.length - i) (cap - i)) (l.drop i).length (flat chc (l.drop i)) := by
  have e : l.drop i = [] := List.drop_of_length_le (by omega)
  rw [e, show l.length - i = 0 by omega]
  exact Sl.nil_ w 4 a _ (by omega)
theorem cinfo_parts {α β γ : Type} {o : Option TypeInfo} {f : TypeInfo → α} {g : TypeInfo → β} {h : TypeInfo → γ} {a : α} {b : β} {c : γ} (e : o.map (fun i => (f i, g i, h i)) = some (a, b, c)) : ∃ i, o = some i ∧ f i = a ∧ g i = b ∧ h i = c := by
  cases o with
  | none => cases e
  | some i => simp at e; exact ⟨i, rfl, e.1, e.2.1, e.2.2⟩
theorem infoC : (Try.prog.info? 88).map (fun i => (i.zero, i.size, i.bytes)) = some (some (.agg #[.int .u32 0, .string ⟨#[]⟩, .int .i64 0, .int .i64 0]), 4, 40) := by kernel_rfl
theorem append_cs (w : World) (v x : Value) (l m : List ChV) (h : OwnC w v l) (hs : Sl w 4 x m.length (flat chc m)) (hb : l.length + m.length ≤ 4294967296) :
    ∃ v' w', (Builtin.append_ #[71, 71] 71 #[v, x]).run Try.prog w = .ok v' w' ∧ OwnC w' v' (l ++ m) ∧ w.grownBy w' v.ownBlock ∧ (∀ g, v'.ownBlock = some g → v.ownBlock = some g ∨ w.heap.size ≤ g) := by
  obtain ⟨i0, hi, hz0, hz1, hz2⟩ := cinfo_parts infoC
  obtain ⟨v', w', h1, h2, h3, h4⟩ := run_append_row w 71 71 71 88 i0 (.agg #[.int .u32 0, .string ⟨#[]⟩, .int .i64 0, .int .i64 0]) 4 40 Try.underlying71 hi hz0 hz1 hz2 rfl h x m.length (flat chc m)
    (Sl.src hs Try.underlying71 (flat_one chc chc_one m)) (by unfold maxLen; omega) (by omega)
  exact ⟨v', w', h1, by unfold OwnC; rw [List.length_append, flat_append]; exact h2, h3, h4⟩
/-- One chunk in a slice of its own. -/
theorem Sl.chunk (w : World) (t : TypeId) (x : ChV) : Sl (w.alloc (.cells #[.int .u32 (x.id : Nat), .string (bs x.s), .int .i64 x.b, .int .i64 (x.r : Nat)] t)) 4 (.slice (some ⟨w.heap.size, 0, none⟩) 1 1) 1 (flat chc [x]) :=
  Sl.built chc chc_len w t x #[.int .u32 (x.id : Nat), .string (bs x.s), .int .i64 x.b, .int .i64 (x.r : Nat)] rfl
end Go.Proofs.Ytjodkgbpbibfbaa
