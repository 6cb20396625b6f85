/- Slices of texts: how they read, how they come in. Of no program. No condition. -/
import Derived.Test.YtjodkgbpbibfbaaHashS
import Derived.Test.YtjodkgbpbibfbaaOpen
namespace Go.Proofs.Ytjodkgbpbibfbaa
open Go.ChangeShapes Go.WideShapes Go.ChangeAt Go.RowKit Go.Deep
/-- Texts, as cells. -/
def strs (l : List (List UInt8)) : List Value := l.map fun s => Value.string (bs s)
theorem strs_length (l : List (List UInt8)) : (strs l).length = l.length := by simp [strs]
theorem strs_append (a b : List (List UInt8)) : strs (a ++ b) = strs a ++ strs b := by simp [strs]
theorem strs_take (l : List (List UInt8)) (k : Nat) : (strs l).take k = strs (l.take k) := by simp [strs, List.map_take]
theorem strs_drop (l : List (List UInt8)) (k : Nat) : (strs l).drop k = strs (l.drop k) := by simp [strs, List.map_drop]
theorem strs_get (l : List (List UInt8)) (k : Nat) (h : k < l.length) : (strs l)[k]? = some (.string (bs l[k])) := by simp [strs, h]
theorem strs_one (l : List (List UInt8)) : ∀ u ∈ strs l, u.oneCell' = true := fun u hu => by
  obtain ⟨_, _, rfl⟩ := List.mem_map.1 hu
  rfl
/-- A slice of texts, only read. -/
def Strs (w : World) (v : Value) (l : List (List UInt8)) : Prop := Sl w 1 v l.length (strs l)
/-- A slice of texts that the call holds by itself. -/
def OwnS (w : World) (v : Value) (l : List (List UInt8)) : Prop := Row w 1 v l.length (strs l)
section
variable {w w' : World} {v : Value} {l : List (List UInt8)}
theorem OwnS.reads (h : OwnS w v l) : Strs w v l := Sl.ofRow h
theorem OwnS.keep {X : Nat → Prop} (h : OwnS w v l) (hf : Frm X w w') (hn : ∀ g, v.ownBlock = some g → ¬ X g) : OwnS w' v l := Row.keep h hf hn
theorem OwnS.nil_ (w : World) : OwnS w (.slice none 0 0) [] := Row.nil_ w 1
theorem Strs.keepF (h : Strs w v l) (hf : Frm (fun _ => False) w w') : Strs w' v l := Sl.keepF h hf
theorem Strs.slice (h : Strs w v l) : ∃ a cap, v = .slice a l.length cap ∧ l.length ≤ cap ∧ cap ≤ maxLen := Sl.slice h
theorem Strs.at {a : Option Addr} {n cap : Nat} (h : Strs w (.slice a n cap) l) (k : Nat) (hk : k < l.length) : ∃ g off, a = some ⟨g, off, none⟩ ∧ g < w.heap.size ∧ w.cell? ⟨g, off + k, none⟩ = some (.string (bs l[k])) := by
  obtain ⟨a', cap', e, _⟩ := Sl.slice h
  cases e
  obtain ⟨g, off, e1, e2, e3⟩ := Sl.at h k (by omega)
  exact ⟨g, off, e1, e2, by rw [e3, strs_get l k hk]⟩
/-- The first k of them. -/
theorem Strs.ahead {a : Option Addr} {n cap : Nat} (h : Strs w (.slice a n cap) l) (k : Nat) (hk : k ≤ n) : Strs w (.slice a k cap) (l.take k) := by
  obtain ⟨a', cap', e, hc, _⟩ := Sl.slice h
  cases e
  have h2 := Sl.take h k cap hk (by omega) (Nat.le_refl _)
  rw [Nat.mul_one, strs_take] at h2
  have e : (l.take k).length = k := by simp; omega
  unfold Strs
  rw [e]; exact h2
/-- What stands behind the first k of them. -/
theorem Strs.behind {a : Option Addr} {n cap : Nat} (h : Strs w (.slice a n cap) l) (k : Nat) (hk : k ≤ n) : Strs w (.slice (if cap = k then a else a.map (·.add k)) (n - k) (cap - k)) (l.drop k) := by
  obtain ⟨a', cap', e, hc, _⟩ := Sl.slice h
  cases e
  have h2 := Sl.drop h k hk
  rw [Nat.mul_one, strs_drop] at h2
  have e : (l.drop k).length = l.length - k := by simp
  unfold Strs
  rw [e]; exact h2
theorem Strs.none_ (w : World) : Strs w (.slice none 0 0) [] := Sl.nil_ w 1 none 0 (by decide)
end
/-- A slice of texts that came in. -/
theorem openStrs {H : Type} {enc : TypeId × Value → H} {P : Program} {w : World} {base : Nat} {spare : Nat → Bool} {held : Bool} {t e : TypeId} {v : Value} {d : DataW H} {p : List MemPlace} (ht : P.underlying t = some (.slice e)) (he : P.underlying e = some .string) (hC : P.cellsOf e = 1)
    (h : DataW.Trod enc P w base spare held t v d p) (hv : ∃ a n c, v = .slice a n c) : ∃ l, Strs w v l ∧ ∀ s ∈ l, s.length ≤ 9223372036854775807 := by
  obtain ⟨fuel, hf⟩ := h
  obtain ⟨a, n, c, rfl⟩ := hv
  rcases open_slice ht hf with ⟨h0, _⟩ | ⟨a', len, cap, m, n', D, Pl, hcs, _, hl, hm, hmm, _, hi⟩
  · simp [Value.cells] at h0
    obtain ⟨rfl, rfl, rfl⟩ := h0
    exact ⟨[], Strs.none_ w, by simp⟩
  · simp [Value.cells] at hcs
    obtain ⟨rfl, rfl, rfl⟩ := hcs
    obtain ⟨L, hL, hp⟩ := listOf (p := fun i (s : List UInt8) => ∃ b off, a' = ⟨b, off, none⟩ ∧ b < w.heap.size ∧ w.cell? ⟨b, off + i, none⟩ = some (.string (bs s)) ∧ s.length ≤ 9223372036854775807) n fun i hin => by
      have h00 : 0 < m := by rw [hmm]; split <;> omega
      obtain ⟨row0, hrow0, htrod0⟩ := hi 0 h00
      obtain ⟨_, _, hcell0⟩ := World.cells?_some hrow0
      have hc0 := hcell0 0 (by rw [hC]; omega)
      have him : i < m := by rw [hmm]; split <;> omega
      obtain ⟨row, hrow, htrod⟩ := hi i him
      obtain ⟨_, hlen, hcell⟩ := World.cells?_some hrow
      have hc := hcell 0 (by rw [hC]; omega)
      obtain ⟨s, e0, _, ws⟩ := DataW.trod_string he htrod
      obtain ⟨s0, e00, _, _⟩ := DataW.trod_string he htrod0
      rw [e00] at hc0
      obtain ⟨b, off, rfl, hb⟩ := addr_of_cell (a := a') (by simpa [Addr.add] using hc0)
      rw [e0, hC] at hc
      have hadd : ∀ (o j : Nat), (⟨b, o, none⟩ : Addr).add j = ⟨b, o + j, none⟩ := fun o j => by unfold Addr.add; split <;> simp_all
      rw [hadd, hadd, Nat.mul_one, Nat.add_zero] at hc
      refine ⟨s.data.toList, b, off, rfl, hb, by rw [bs_data, hc]; rfl, ?_⟩
      unfold maxLen at ws
      have : s.data.toList.length = s.size := by simp
      omega
    subst hL
    refine ⟨L, ⟨by simp [strs], some a', c, rfl, hl, hm, ?_⟩, fun s hs => ?_⟩
    · rcases Nat.eq_zero_or_pos L.length with h0 | h0
      · exact .inl h0
      · obtain ⟨b, off, rfl, hb, _⟩ := hp 0 h0
        refine .inr ⟨b, off, rfl, hb, fun j hj => ?_⟩
        have hj2 : j < L.length := by omega
        obtain ⟨b', off', e, _, hc, _⟩ := hp j hj2
        cases e
        rw [hc, strs_get L j hj2]
    · obtain ⟨j, hj, rfl⟩ := List.getElem_of_mem hs
      obtain ⟨_, _, _, _, _, hl2⟩ := hp j hj
      exact hl2
end Go.Proofs.Ytjodkgbpbibfbaa
