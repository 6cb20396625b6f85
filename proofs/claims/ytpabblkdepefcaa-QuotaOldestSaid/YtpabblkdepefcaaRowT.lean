/- An append to a slice that a call holds by itself: what new memory bears. Of no program. No condition. -/
import Derived.Test.YtpabblkdepefcaaRow
namespace Go.Proofs.Ytpabblkdepefcaa
open Go.RowKit

/-- Blocks of cells bear what they bore. -/
def Tags (w w' : World) : Prop := ∀ (g : Nat) (cs : Array Value) (t : TypeId) (fr : Nat × Nat), w.heap[g]? = some (Obj.cells cs t fr) → ∃ cs', w'.heap[g]? = some (Obj.cells cs' t fr)
theorem Tags.refl (w : World) : Tags w w := fun _ cs _ _ h => ⟨cs, h⟩
theorem Tags.trans {a b c : World} (h : Tags a b) (k : Tags b c) : Tags a c := fun g cs t fr e => by
  obtain ⟨cs', e'⟩ := h g cs t fr e
  exact k g cs' t fr e'
theorem Tags.ofFrm {X : Nat → Prop} {w w' : World} (h : Frm X w w') (hX : ∀ k, k < w.heap.size → ¬ X k) : Tags w w' := fun g cs _ _ e => ⟨cs, (h.block g (Array.getElem?_eq_some_iff.1 e).1 (hX g (Array.getElem?_eq_some_iff.1 e).1)).trans e⟩
theorem Tags.setCell (w : World) (a : Addr) (u : Value) : Tags w (w.setCell a u) := fun g cs t fr e => by
  by_cases h : g = a.block
  · subst h
    simp only [World.setCell, Array.getElem?_modify]
    simp [e]
  · exact ⟨cs, (Below.heap_setCell _ _ _ _ h).trans e⟩
theorem Tags.setCells (b : Nat) : ∀ (vs : List Value) (o : Nat) (w : World), Tags w (w.setCells b o vs) := by
  intro vs
  induction vs with
  | nil => intro o w; exact Tags.refl w
  | cons v vs ih =>
    intro o w
    rw [World.setCells]
    exact (Tags.setCell w _ v).trans (ih _ _)
/-- An append, of whatever source; new memory bears the element's type. -/
theorem run_append_rowT {P : Program} (w : World) (t tx ty e : TypeId) (i : TypeInfo) (z : Value) (size bytes : Nat) (ht : P.underlying t = some (.slice e)) (hi : P.info? e = some i) (hz : i.zero = some z)
    (hsize : i.size = size) (hby : i.bytes = bytes) (hzs : z.cells.size = size) {v : Value} {n : Nat} {xs : List Value} (hr : Row w size v n xs)
    (x : Value) (m : Nat) (news : List Value) (hs : Src P size tx x m news w) (h63 : n + m ≤ maxLen) (hbytes : (n + m) * bytes ≤ 140737488355328) :
    ∃ v' w', (Builtin.append_ #[t, tx] ty #[v, x]).run P w = .ok v' w' ∧ Row w' size v' (n + m) (xs ++ news) ∧ w.grownBy w' v.ownBlock ∧ (∀ g, v'.ownBlock = some g → v.ownBlock = some g ∨ (w.heap.size ≤ g ∧ ∃ cs fr, w'.heap[g]? = some (.cells cs e fr))) ∧ Tags w w' := by
  subst hsize hby
  have hnl := hs.newsLen
  have hxl := hr.1
  have hl : (xs ++ news).length = (n + m) * i.size := by rw [List.length_append, hxl, hnl, Nat.add_mul]
  have hsmall : n + m ≤ 9223372036854775807 := by simp only [maxLen] at h63; omega
  have grown : ∀ (old : Nat), old < n + m → Row (w.drew.alloc (.cells ((xs ++ news).toArray ++ Builtin.zeroCells z.cells (grownCap w (n + m) old e - (n + m))) e)) i.size
        (.slice (some ⟨w.heap.size, 0, none⟩) (n + m) (grownCap w (n + m) old e)) (n + m) (xs ++ news) := by
    intro old _
    have hge := grownCap_ge w (n + m) old e
    refine Row.made w.drew e i.size (n + m) _ (xs ++ news) _ hl hge (grownCap_le_maxLen w (n + m) old e h63) ?_ ?_
    · simp only [Array.size_append, List.size_toArray, hl, size_zeroCells, hzs, ← Nat.add_mul]
      congr 1
      omega
    · simp only [Array.toList_append]
      rw [← hl]
      exact List.take_left
  rcases hr.2 with ⟨rfl, rfl⟩ | ⟨g, cap, rfl, h1, h2, h3, h4, h5⟩
  · have hx : xs = [] := List.eq_nil_of_length_eq_zero (by simpa using hxl)
    subst hx
    by_cases hm : m = 0
    · subst hm
      have hn : news = [] := List.eq_nil_of_length_eq_zero (by simpa using hnl)
      subst hn
      exact ⟨_, _, run_append_nothing w t tx ty e i ht hi none 0 0 (Nat.le_refl _) x hs, Row.nil_ _ _, ⟨rfl, rfl, rfl, Nat.le_refl _, fun _ _ _ => rfl⟩, fun _ h => .inl h, Tags.refl w⟩
    · exact ⟨_, _, run_append_grow_src w t tx ty e i z ht hi hz none 0 0 [] (run_firstCells_none _ _ _ _ _) x m news hs (by omega) (by omega) (growslice_fits (by omega) hbytes),
        grown 0 (by omega), ⟨rfl, rfl, rfl, by simp, fun k hk _ => Below.heap_alloc w.drew _ k hk⟩, fun g hg => .inr (by cases hg; exact ⟨Nat.le_refl _, _, _, Blk.alloc w.drew e _⟩), Tags.ofFrm ((Frm.refl (fun _ => False) w).drew.alloc _) (fun _ _ h => h)⟩
  · by_cases hroom : n + m ≤ cap
    · have hc : ∀ j, j < news.length → (w.cell? ⟨g, 0 + n * i.size + j, none⟩).isSome = true ∧ w.frozen? ⟨g, 0 + n * i.size + j, none⟩ = false := by
        intro j hj
        have : n * i.size + j < cap * i.size := by
          have h6 := Nat.mul_le_mul_right i.size hroom
          rw [Nat.add_mul] at h6
          omega
        rw [Nat.zero_add]
        exact h5 _ this
      refine ⟨_, _, run_append_room_src w t tx ty e i ht hi g 0 n cap x m news hs hroom (fun j hj => (hc j hj).1) (fun j hj => (hc j hj).2), ?_, ?_, fun _ h => .inl h, Tags.setCells _ _ _ _⟩
      · refine ⟨hl, .inr ⟨g, cap, rfl, hroom, h2, setCells_isCells g news _ w g h3, fun j hj => ?_, fun j hj => ?_⟩⟩
        · by_cases hj1 : j < n * i.size
          · rw [World.cell?_setCells_out g news _ w ⟨g, j, none⟩ (fun _ _ => .inl (by simpa using hj1)), h4 j hj1, List.getElem?_append_left (by omega)]
          · have hj2 : j - n * i.size < news.length := by rw [Nat.add_mul] at hj; omega
            have hin := World.cell?_setCells_in g news (0 + n * i.size) w (fun j hj => (hc j hj).1) (j - n * i.size) hj2
            rw [show 0 + n * i.size + (j - n * i.size) = j from by omega] at hin
            rw [hin, List.getElem?_append_right (by omega), hxl, List.getElem?_eq_getElem hj2]
        · rw [World.frozen?_setCells]
          refine ⟨?_, (h5 j hj).2⟩
          by_cases hj1 : j < n * i.size ∨ n * i.size + news.length ≤ j
          · rw [World.cell?_setCells_out g news _ w ⟨g, j, none⟩ (fun _ _ => by simpa using hj1)]; exact (h5 j hj).1
          · have hin := World.cell?_setCells_in g news (0 + n * i.size) w (fun j hj => (hc j hj).1) (j - n * i.size) (by omega)
            rw [show 0 + n * i.size + (j - n * i.size) = j from by omega] at hin
            rw [hin]; rfl
      · obtain ⟨e1, e2, e3, e4⟩ := setCells_rest g news (0 + n * i.size) w
        exact ⟨e1, e2, e3, by rw [e4]; exact Nat.le_refl _, fun k _ hk => setCells_blk g news _ w k (fun e => hk (by rw [e]; rfl))⟩
    · have hold : (Builtin.firstCells i.size n (.slice (some ⟨g, 0, none⟩) n cap)).run P w.drew = .ok xs.toArray w.drew := by
        refine run_firstCells_some w.drew i.size n ⟨g, 0, none⟩ n cap xs hxl fun j u hu => ?_
        have hj : j < xs.length := by
          rcases Nat.lt_or_ge j xs.length with h | h
          · exact h
          · rw [List.getElem?_eq_none h] at hu; cases hu
        have hadd : (⟨g, 0, none⟩ : Addr).add j = ⟨g, j, none⟩ := by unfold Addr.add; split <;> simp_all
        rw [hadd]
        show w.cell? ⟨g, j, none⟩ = some u
        rw [h4 j (by omega), hu]
      exact ⟨_, _, run_append_grow_src w t tx ty e i z ht hi hz (some ⟨g, 0, none⟩) n cap xs hold x m news hs (by omega) (by omega) (growslice_fits (by omega) hbytes),
        grown cap (by omega), ⟨rfl, rfl, rfl, by simp, fun k hk _ => Below.heap_alloc w.drew _ k hk⟩, fun g hg => .inr (by cases hg; exact ⟨Nat.le_refl _, _, _, Blk.alloc w.drew e _⟩), Tags.ofFrm ((Frm.refl (fun _ => False) w).drew.alloc _) (fun _ _ h => h)⟩
end Go.Proofs.Ytpabblkdepefcaa
