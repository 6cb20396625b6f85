/- Plain words on slices that a call holds by itself: the cells behind a slice value, none of which is frozen; what an append to it leaves. Of no program. No condition. -/
import Derived.Test.YtjodkgbpbibfbaaFrm
import Derived.Deep.Upon
import Derived.Deep.RegionLaw
import Derived.RangeFuncOwn
namespace Go.Proofs.Ytjodkgbpbibfbaa
open Go.RowKit

/-- The slice value v has n elements, of size cells each, these are the cells xs, and no cell up to its capacity is frozen. -/
def Row (w : World) (size : Nat) (v : Value) (n : Nat) (xs : List Value) : Prop :=
  xs.length = n * size ∧ ((v = .slice none 0 0 ∧ n = 0) ∨
    ∃ g cap, v = .slice (some ⟨g, 0, none⟩) n cap ∧ n ≤ cap ∧ cap ≤ maxLen ∧ (∃ o : Obj, w.heap[g]? = some o ∧ o.isCells = true) ∧ (∀ j, j < n * size → w.cell? ⟨g, j, none⟩ = xs[j]?) ∧
      (∀ j, j < cap * size → (w.cell? ⟨g, j, none⟩).isSome = true ∧ w.frozen? ⟨g, j, none⟩ = false))

section
variable {w w' : World} {size n : Nat} {v : Value} {xs : List Value}
theorem Row.nil_ (w : World) (size : Nat) : Row w size (.slice none 0 0) 0 [] := ⟨by simp, .inl ⟨rfl, rfl⟩⟩
theorem Row.blk (h : Row w size v n xs) : ∀ g, v.ownBlock = some g → g < w.heap.size := by
  intro g hg
  rcases h.2 with ⟨rfl, _⟩ | ⟨g', cap, rfl, _, _, hlt, _⟩
  · cases hg
  · cases hg
    obtain ⟨o, ho, _⟩ := hlt
    exact (Array.getElem?_eq_some_iff.1 ho).1
theorem Row.keepB (h : Row w size v n xs) (hb : ∀ g, v.ownBlock = some g → w'.heap[g]? = w.heap[g]?) : Row w' size v n xs := by
  refine ⟨h.1, ?_⟩
  rcases h.2 with hn | ⟨g, cap, rfl, h1, h2, h3, h4, h5⟩
  · exact .inl hn
  · have e := hb g rfl
    have hlt : ∃ o : Obj, w'.heap[g]? = some o ∧ o.isCells = true := by
      obtain ⟨o, ho, hc⟩ := h3
      exact ⟨o, e.trans ho, hc⟩
    exact .inr ⟨g, cap, rfl, h1, h2, hlt, fun j hj => (World.cell?_of_block (a := ⟨g, j, none⟩) e).trans (h4 j hj), fun j hj => by
      rw [World.cell?_of_block (a := ⟨g, j, none⟩) e, World.frozen?_of_block (a := ⟨g, j, none⟩) e]; exact h5 j hj⟩
theorem Row.keep {X : Nat → Prop} (h : Row w size v n xs) (hf : Frm X w w') (hn : ∀ g, v.ownBlock = some g → ¬ X g) : Row w' size v n xs :=
  h.keepB fun g hg => hf.block g (h.blk g hg) (hn g hg)
theorem Row.alloc (h : Row w size v n xs) (o : Obj) : Row (w.alloc o) size v n xs := h.keepB fun g hg => Below.heap_alloc _ _ _ (h.blk g hg)
theorem Row.drew (h : Row w size v n xs) : Row w.drew size v n xs := h
theorem Row.setOther (h : Row w size v n xs) {p : Addr} (hn : v.ownBlock ≠ some p.block) (u : Value) : Row (w.setCell p u) size v n xs :=
  h.keepB fun g hg => Below.heap_setCell _ _ _ _ fun e => hn (by rw [hg, e])
theorem Row.slice (h : Row w size v n xs) : ∃ a cap, v = .slice a n cap ∧ n ≤ cap ∧ cap ≤ maxLen := by
  rcases h.2 with ⟨rfl, rfl⟩ | ⟨g, cap, rfl, h1, h2, _⟩
  · exact ⟨_, _, rfl, Nat.le_refl _, by decide⟩
  · exact ⟨_, _, rfl, h1, h2⟩
theorem Row.isC (h : Row w size v n xs) : ∀ g, v.ownBlock = some g → ∃ o : Obj, w.heap[g]? = some o ∧ o.isCells = true := by
  intro g hg
  rcases h.2 with ⟨rfl, _⟩ | ⟨g', cap, rfl, _, _, hc, _⟩
  · cases hg
  · cases hg; exact hc
theorem Row.turned {row : Option Nat} (h : Row w size v n xs) (hg : w.grownBy w' row) (hr : ∀ r, row = some r → ∃ o : Obj, w.heap[r]? = some o ∧ o.isCells = false) : Row w' size v n xs :=
  h.keepB fun g hv => hg.block g (h.blk g hv) fun e => by
    obtain ⟨o, ho, hc⟩ := hr g e.symm
    obtain ⟨o', ho', hc'⟩ := h.isC g hv
    rw [ho] at ho'
    cases ho'
    rw [hc] at hc'
    cases hc'
/-- A new row. -/
theorem Row.made (w : World) (e : TypeId) (size n cap : Nat) (xs : List Value) (cur : Array Value) (hl : xs.length = n * size) (hn : n ≤ cap) (hm : cap ≤ maxLen) (hs : cur.size = cap * size) (ht : cur.toList.take (n * size) = xs) :
    Row (w.alloc (.cells cur e)) size (.slice (some ⟨w.heap.size, 0, none⟩) n cap) n xs := by
  have hb := Blk.alloc w e cur
  refine ⟨hl, .inr ⟨_, cap, rfl, hn, hm, ⟨_, hb, rfl⟩, fun j hj => ?_, fun j hj => ⟨?_, hb.free j⟩⟩⟩
  · have hj' : j < cur.size := by rw [hs]; exact Nat.lt_of_lt_of_le hj (Nat.mul_le_mul_right _ hn)
    rw [hb.cell j (v := cur[j]) (by simp [hj']), ← ht, List.getElem?_take, if_pos hj]
    simp [hj']
  · have hj' : j < cur.size := by rw [hs]; exact hj
    rw [hb.cell j (v := cur[j]) (by simp [hj'])]; rfl
end

theorem setCells_blk (b : Nat) : ∀ (vs : List Value) (o : Nat) (w : World) (k : Nat), k ≠ b → (w.setCells b o vs).heap[k]? = w.heap[k]? := by
  intro vs
  induction vs with
  | nil => intro o w k _; rfl
  | cons v vs ih =>
    intro o w k hk
    rw [World.setCells, ih _ _ _ hk]
    exact Below.heap_setCell _ _ _ _ hk
theorem setCells_rest (b : Nat) : ∀ (vs : List Value) (o : Nat) (w : World), (w.setCells b o vs).os = w.os ∧ (w.setCells b o vs).tape = w.tape ∧ (w.setCells b o vs).output = w.output ∧ (w.setCells b o vs).heap.size = w.heap.size := by
  intro vs
  induction vs with
  | nil => intro o w; exact ⟨rfl, rfl, rfl, rfl⟩
  | cons v vs ih =>
    intro o w
    rw [World.setCells]
    obtain ⟨h1, h2, h3, h4⟩ := ih (o + 1) (w.setCell ⟨b, o, none⟩ v)
    exact ⟨h1, h2, h3, by rw [h4]; simp [World.setCell]⟩

theorem setCell_isCells {w : World} {g : Nat} (a : Addr) (u : Value) (h : ∃ o : Obj, w.heap[g]? = some o ∧ o.isCells = true) : ∃ o : Obj, (w.setCell a u).heap[g]? = some o ∧ o.isCells = true := by
  obtain ⟨o, ho, hc⟩ := h
  by_cases e : g = a.block
  · subst e
    cases o <;> first | (simp [Obj.isCells] at hc; done) | skip
    refine ⟨_, by simp only [World.setCell, Array.getElem?_modify]; simp [ho]; rfl, rfl⟩
  · exact ⟨o, (Below.heap_setCell _ _ _ _ e).trans ho, hc⟩
theorem setCells_isCells (b : Nat) : ∀ (vs : List Value) (o : Nat) (w : World) (g : Nat), (∃ o : Obj, w.heap[g]? = some o ∧ o.isCells = true) → ∃ x : Obj, (w.setCells b o vs).heap[g]? = some x ∧ x.isCells = true := by
  intro vs
  induction vs with
  | nil => intro o w g h; exact h
  | cons v vs ih =>
    intro o w g h
    rw [World.setCells]
    exact ih _ _ _ (setCell_isCells _ _ h)
/-- An append, of whatever source. -/
theorem run_append_row {P : Program} (w : World) (t tx ty e : TypeId) (i : TypeInfo) (z : Value) (size bytes : Nat) (ht : P.underlying t = some (.slice e)) (hi : P.info? e = some i) (hz : i.zero = some z)
    (hsize : i.size = size) (hby : i.bytes = bytes) (hzs : z.cells.size = size) {v : Value} {n : Nat} {xs : List Value} (hr : Row w size v n xs)
    (x : Value) (m : Nat) (news : List Value) (hs : Src P size tx x m news w) (h63 : n + m ≤ maxLen) (hbytes : (n + m) * bytes ≤ 140737488355328) :
    ∃ v' w', (Builtin.append_ #[t, tx] ty #[v, x]).run P w = .ok v' w' ∧ Row w' size v' (n + m) (xs ++ news) ∧ w.grownBy w' v.ownBlock ∧ (∀ g, v'.ownBlock = some g → v.ownBlock = some g ∨ w.heap.size ≤ g) := by
  subst hsize hby
  have hnl := hs.newsLen
  have hxl := hr.1
  have hl : (xs ++ news).length = (n + m) * i.size := by rw [List.length_append, hxl, hnl, Nat.add_mul]
  have hsmall : n + m ≤ 9223372036854775807 := by simp only [maxLen] at h63; omega
  have grown : ∀ (old : Nat), old < n + m → Row (w.drew.alloc (.cells ((xs ++ news).toArray ++ Builtin.zeroCells z.cells (grownCap w (n + m) old e - (n + m))) e)) i.size
        (.slice (some ⟨w.heap.size, 0, none⟩) (n + m) (grownCap w (n + m) old e)) (n + m) (xs ++ news) := by
    intro old _
    have hge := grownCap_ge w (n + m) old e
    refine Row.made w.drew e i.size (n + m) _ (xs ++ news) _ hl hge (grownCap_le_maxLen w (n + m) old e h63) ?_ ?_
    · simp only [Array.size_append, List.size_toArray, hl, size_zeroCells, hzs, ← Nat.add_mul]
      congr 1
      omega
    · simp only [Array.toList_append]
      rw [← hl]
      exact List.take_left
  rcases hr.2 with ⟨rfl, rfl⟩ | ⟨g, cap, rfl, h1, h2, h3, h4, h5⟩
  · have hx : xs = [] := List.eq_nil_of_length_eq_zero (by simpa using hxl)
    subst hx
    by_cases hm : m = 0
    · subst hm
      have hn : news = [] := List.eq_nil_of_length_eq_zero (by simpa using hnl)
      subst hn
      exact ⟨_, _, run_append_nothing w t tx ty e i ht hi none 0 0 (Nat.le_refl _) x hs, Row.nil_ _ _, ⟨rfl, rfl, rfl, Nat.le_refl _, fun _ _ _ => rfl⟩, fun _ h => .inl h⟩
    · exact ⟨_, _, run_append_grow_src w t tx ty e i z ht hi hz none 0 0 [] (run_firstCells_none _ _ _ _ _) x m news hs (by omega) (by omega) (growslice_fits (by omega) hbytes),
        grown 0 (by omega), ⟨rfl, rfl, rfl, by simp, fun k hk _ => Below.heap_alloc w.drew _ k hk⟩, fun g hg => .inr (by cases hg; exact Nat.le_refl _)⟩
  · by_cases hroom : n + m ≤ cap
    · have hc : ∀ j, j < news.length → (w.cell? ⟨g, 0 + n * i.size + j, none⟩).isSome = true ∧ w.frozen? ⟨g, 0 + n * i.size + j, none⟩ = false := by
        intro j hj
        have : n * i.size + j < cap * i.size := by
          have h6 := Nat.mul_le_mul_right i.size hroom
          rw [Nat.add_mul] at h6
          omega
        rw [Nat.zero_add]
        exact h5 _ this
      refine ⟨_, _, run_append_room_src w t tx ty e i ht hi g 0 n cap x m news hs hroom (fun j hj => (hc j hj).1) (fun j hj => (hc j hj).2), ?_, ?_, fun _ h => .inl h⟩
      · refine ⟨hl, .inr ⟨g, cap, rfl, hroom, h2, setCells_isCells g news _ w g h3, fun j hj => ?_, fun j hj => ?_⟩⟩
        · by_cases hj1 : j < n * i.size
          · rw [World.cell?_setCells_out g news _ w ⟨g, j, none⟩ (fun _ _ => .inl (by simpa using hj1)), h4 j hj1, List.getElem?_append_left (by omega)]
          · have hj2 : j - n * i.size < news.length := by rw [Nat.add_mul] at hj; omega
            have hin := World.cell?_setCells_in g news (0 + n * i.size) w (fun j hj => (hc j hj).1) (j - n * i.size) hj2
            rw [show 0 + n * i.size + (j - n * i.size) = j from by omega] at hin
            rw [hin, List.getElem?_append_right (by omega), hxl, List.getElem?_eq_getElem hj2]
        · rw [World.frozen?_setCells]
          refine ⟨?_, (h5 j hj).2⟩
          by_cases hj1 : j < n * i.size ∨ n * i.size + news.length ≤ j
          · rw [World.cell?_setCells_out g news _ w ⟨g, j, none⟩ (fun _ _ => by simpa using hj1)]; exact (h5 j hj).1
          · have hin := World.cell?_setCells_in g news (0 + n * i.size) w (fun j hj => (hc j hj).1) (j - n * i.size) (by omega)
            rw [show 0 + n * i.size + (j - n * i.size) = j from by omega] at hin
            rw [hin]; rfl
      · obtain ⟨e1, e2, e3, e4⟩ := setCells_rest g news (0 + n * i.size) w
        exact ⟨e1, e2, e3, by rw [e4]; exact Nat.le_refl _, fun k _ hk => setCells_blk g news _ w k (fun e => hk (by rw [e]; rfl))⟩
    · have hold : (Builtin.firstCells i.size n (.slice (some ⟨g, 0, none⟩) n cap)).run P w.drew = .ok xs.toArray w.drew := by
        refine run_firstCells_some w.drew i.size n ⟨g, 0, none⟩ n cap xs hxl fun j u hu => ?_
        have hj : j < xs.length := by
          rcases Nat.lt_or_ge j xs.length with h | h
          · exact h
          · rw [List.getElem?_eq_none h] at hu; cases hu
        have hadd : (⟨g, 0, none⟩ : Addr).add j = ⟨g, j, none⟩ := by unfold Addr.add; split <;> simp_all
        rw [hadd]
        show w.cell? ⟨g, j, none⟩ = some u
        rw [h4 j (by omega), hu]
      exact ⟨_, _, run_append_grow_src w t tx ty e i z ht hi hz (some ⟨g, 0, none⟩) n cap xs hold x m news hs (by omega) (by omega) (growslice_fits (by omega) hbytes),
        grown cap (by omega), ⟨rfl, rfl, rfl, by simp, fun k hk _ => Below.heap_alloc w.drew _ k hk⟩, fun g hg => .inr (by cases hg; exact Nat.le_refl _)⟩
end Go.Proofs.Ytjodkgbpbibfbaa
