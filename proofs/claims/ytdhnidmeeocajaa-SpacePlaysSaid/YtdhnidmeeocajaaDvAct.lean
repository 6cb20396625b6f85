/- The laws' acts, as they lie in the argument's memory; may they be gone through? No condition. -/
import Derived.Test.YtdhnidmeeocajaaHashS
namespace Go.Proofs.Ytdhnidmeeocajaa
open Go.RowKit
/-- A slice of ints. -/
def zcs (l : List Int) : List Value := l.map (Value.int .i64)
theorem zcs_length (l : List Int) : (zcs l).length = l.length := by simp [zcs]
theorem zcs_get (l : List Int) (k : Nat) (h : k < l.length) : (zcs l)[k]? = some (.int .i64 l[k]) := by simp [zcs, h]
def Zs (w : World) (v : Value) (l : List Int) : Prop := Sl w 1 v l.length (zcs l)
theorem Zs.keepF {w w' : World} {v : Value} {l : List Int} (h : Zs w v l) (hf : Frm (fun _ => False) w w') : Zs w' v l := Sl.keepF h hf
theorem Zs.at {w : World} {a : Option Addr} {n cap : Nat} {l : List Int} (h : Zs w (.slice a n cap) l) (k : Nat) (hk : k < l.length) : ∃ g off, a = some ⟨g, off, none⟩ ∧ g < w.heap.size ∧ w.cell? ⟨g, off + k, none⟩ = some (.int .i64 l[k]) := by
  obtain ⟨a', cap', e, _⟩ := Sl.slice h
  cases e
  obtain ⟨g, off, e1, e2, e3⟩ := Sl.at h k (by omega)
  exact ⟨g, off, e1, e2, by rw [e3, zcs_get l k hk]⟩
theorem Zs.slice {w : World} {v : Value} {l : List Int} (h : Zs w v l) : ∃ a cap, v = .slice a l.length cap ∧ l.length ≤ cap ∧ cap ≤ maxLen := Sl.slice h
/-- A number of 64 bits. -/
def Z64 (q : Int) : Prop := -9223372036854775808 ≤ q ∧ q ≤ 9223372036854775807

/-- An act: what, at which block, which text, which choices. -/
structure ActD where
  k : Nat
  q : Int
  s : List UInt8
  cs : List Int
structure ActD.fits (x : ActD) : Prop where
  k : x.k < 256
  q : Z64 x.q
  s : x.s.length ≤ 9223372036854775807
  cs : ∀ z ∈ x.cs, Z64 z
/-- An act at address p. -/
structure ActAt (w : World) (b off : Nat) (x : ActD) (c : Value) : Prop where
  lt : b < w.heap.size
  c0 : w.cell? ⟨b, off, none⟩ = some (.int .u8 (x.k : Nat))
  c1 : w.cell? ⟨b, off + 1, none⟩ = some (.int .i64 x.q)
  c2 : w.cell? ⟨b, off + 2, none⟩ = some (.string (bs x.s))
  c3 : w.cell? ⟨b, off + 3, none⟩ = some c
  zs : Zs w c x.cs
  fits : x.fits
def Acs (w : World) (v : Value) (L : List ActD) : Prop :=
  ∃ a cap, v = .slice a L.length cap ∧ L.length ≤ cap ∧ cap ≤ maxLen ∧ ∀ i (h : i < L.length), ∃ b off c, a = some ⟨b, off, none⟩ ∧ ActAt w b (off + i * 4) L[i] c
theorem ActAt.keepF {w w' : World} {b off : Nat} {x : ActD} {c : Value} (h : ActAt w b off x c) (hf : Frm (fun _ => False) w w') : ActAt w' b off x c := by
  have e := hf.block b h.lt (fun h => h)
  have ec : ∀ j, w'.cell? ⟨b, j, none⟩ = w.cell? ⟨b, j, none⟩ := fun j => World.cell?_of_block (a := ⟨b, j, none⟩) e
  exact ⟨Nat.lt_of_lt_of_le h.lt hf.size, by rw [ec]; exact h.c0, by rw [ec]; exact h.c1, by rw [ec]; exact h.c2, by rw [ec]; exact h.c3, h.zs.keepF hf, h.fits⟩
theorem Acs.keepF {w w' : World} {v : Value} {L : List ActD} (h : Acs w v L) (hf : Frm (fun _ => False) w w') : Acs w' v L := by
  obtain ⟨a, cap, hv, h1, h2, h3⟩ := h
  exact ⟨a, cap, hv, h1, h2, fun i hi => by
    obtain ⟨b, off, c, ha, r⟩ := h3 i hi
    exact ⟨b, off, c, ha, r.keepF hf⟩⟩

theorem ret_b11 {x y : Bool} (h : x = y) : Ending.returned (.bool x) = .returned (.bool y) := by rw [h]
/-- May these acts be gone through? -/
def fewD (L : List ActD) : Bool := decide (L.length ≤ 70) && L.all fun x => decide (x.s.length ≤ 200) && decide (x.cs.length ≤ 20)
theorem fewD_len {L : List ActD} (h : fewD L = true) : L.length ≤ 70 := by
  unfold fewD at h
  rw [Bool.and_eq_true] at h
  exact of_decide_eq_true h.1
theorem fewD_at {L : List ActD} (h : fewD L = true) (i : Nat) (hi : i < L.length) : L[i].s.length ≤ 200 ∧ L[i].cs.length ≤ 20 := by
  unfold fewD at h
  rw [Bool.and_eq_true, List.all_eq_true] at h
  have := h.2 L[i] (List.getElem_mem hi)
  simpa using this

end Go.Proofs.Ytdhnidmeeocajaa
