/- The laws' acts, as they lie in the argument's memory; may they be gone through? No condition. -/
import Derived.Test.YtnhihadnaiaojaaHashS
namespace Go.Proofs.Ytnhihadnaiaojaa
open Go.RowKit
/-- A slice of ints. -/
def zcs (l : List Int) : List Value := l.map (Value.int .i64)
theorem zcs_length (l : List Int) : (zcs l).length = l.length := by simp [zcs]
theorem zcs_get (l : List Int) (k : Nat) (h : k < l.length) : (zcs l)[k]? = some (.int .i64 l[k]) := by simp [zcs, h]
def Zs (w : World) (v : Value) (l : List Int) : Prop := Sl w 1 v l.length (zcs l)
theorem Zs.keepF {w w' : World} {v : Value} {l : List Int} (h : Zs w v l) (hf : Frm (fun _ => False) w w') : Zs w' v l := Sl.keepF h hf
theorem Zs.at {w : World} {a : Option Addr} {n cap : Nat} {l : List Int} (h : Zs w (.slice a n cap) l) (k : Nat) (hk : k < l.length) : ∃ g off, a = some ⟨g, off, none⟩ ∧ g < w.heap.size ∧ w.cell? ⟨g, off + k, none⟩ = some (.int .i64 l[k]) := by
  obtain ⟨a', cap', e, _⟩ := Sl.slice h
  cases e
  obtain ⟨g, off, e1, e2, e3⟩ := Sl.at h k (by omega)
  exact ⟨g, off, e1, e2, by rw [e3, zcs_get l k hk]⟩
theorem Zs.slice {w : World} {v : Value} {l : List Int} (h : Zs w v l) : ∃ a cap, v = .slice a l.length cap ∧ l.length ≤ cap ∧ cap ≤ maxLen := Sl.slice h
/-- A number of 64 bits. -/
def Z64 (q : Int) : Prop := -9223372036854775808 ≤ q ∧ q ≤ 9223372036854775807

/-- An act: what, at which block, which text, which choices. -/
structure ActD where
  k : Nat
  q : Int
  s : List UInt8
  cs : List Int
structure ActD.fits (x : ActD) : Prop where
  k : x.k < 256
  q : Z64 x.q
  s : x.s.length ≤ 9223372036854775807
  cs : ∀ z ∈ x.cs, Z64 z
/-- An act at address p. -/
structure ActAt (w : World) (b off : Nat) (x : ActD) (c : Value) : Prop where
  lt : b < w.heap.size
  c0 : w.cell? ⟨b, off, none⟩ = some (.int .u8 (x.k : Nat))
  c1 : w.cell? ⟨b, off + 1, none⟩ = some (.int .i64 x.q)
  c2 : w.cell? ⟨b, off + 2, none⟩ = some (.string (bs x.s))
  c3 : w.cell? ⟨b, off + 3, none⟩ = some c
  zs : Zs w c x.cs
  fits : x.fits
def Acs (w : World) (v : Value) (L : List ActD) : Prop :=
  ∃ a cap, v = .slice a L.length cap ∧ L.length ≤ cap ∧ cap ≤ maxLen ∧ ∀ i (h : i < L.length), ∃ b off c, a = some ⟨b, off, none⟩ ∧ ActAt w b (off + i * 4) L[i] c
theorem ActAt.keepF {w w' : World} {b off : Nat} {x : ActD} {c : Value} (h : ActAt w b off x c) (hf : Frm (fun _ => False) w w') : ActAt w' b off x c := by
  have e := hf.block b h.lt (fun h => h)
  have ec : ∀ j, w'.cell? ⟨b, j, none⟩ = w.cell? ⟨b, j, none⟩ := fun j => World.cell?_of_block (a := ⟨b, j, none⟩) e
  exact ⟨Nat.lt_of_lt_of_le h.lt hf.size, by rw [ec]; exact h.c0, by rw [ec]; exact h.c1, by rw [ec]; exact h.c2, by rw [ec]; exact h.c3, h.zs.keepF hf, h.fits⟩
theorem Acs.keepF {w w' : World} {v : Value} {L : List ActD} (h : Acs w v L) (hf : Frm (fun _ => False) w w') : Acs w' v L := by
  obtain ⟨a, cap, hv, h1, h2, h3⟩ := h
  exact ⟨a, cap, hv, h1, h2, fun i hi => by
    obtain ⟨b, off, c, ha, r⟩ := h3 i hi
    exact ⟨b, off, c, ha, r.keepF hf⟩⟩

theorem ret_b11 {x y : Bool} (h : x = y) : Ending.returned (.bool x) = .returned (.bool y) := by rw [h]
/-- May these acts be gone through? -/
def fewD (L : List ActD) : Bool := decide (L.length ≤ 70) && L.all fun x => decide (x.s.length ≤ 200) && decide (x.cs.length ≤ 20)
theorem fewD_len {L : List ActD} (h : fewD L = true) : L.length ≤ 70 := by
  unfold fewD at h
  rw [Bool.and_eq_true] at h
  exact of_decide_eq_true h.1
theorem fewD_at {L : List ActD} (h : fewD L = true) (i : Nat) (hi : i < L.length) : L[i].s.length ≤ 200 ∧ L[i].cs.length ≤ 20 := by
  unfold fewD at h
  rw [Bool.and_eq_true, List.all_eq_true] at h
  have := h.2 L[i] (List.getElem_mem hi)
  simpa using this

set_option maxRecDepth 100000 in
set_option maxHeartbeats 2000000 in
theorem few11_any (v : Value) (L : List ActD) (w : World) (h : Acs w v L) :
    Calls Try.prog 9 #[v] w fun e w' => e = .returned (.bool (fewD L)) ∧ w = w' := by
  obtain ⟨a, cap, rfl, h1, h2, h3⟩ := h
  have H3 := Lib.hid h3
  clear h3
  unfold maxLen at h2
  go_enter Try.func9, Try.ntmps9
  go_wp2
  go_loop [3] (fun i => ∃ k : Nat, k ≤ L.length ∧ k ≤ 80 ∧ i = .int .i64 k ∧ ∀ j (h : j < L.length), j < k → L[j].s.length ≤ 200 ∧ L[j].cs.length ≤ 20) (fun i => L.length - (intOf i).toNat)
  case atStart => exact ⟨0, Nat.zero_le _, by omega, rfl, fun j _ h => absurd h (by omega)⟩
  case round =>
    obtain ⟨k, hk, hk110, rfl, hall⟩ := hrel
    have Hall := Lib.hid hall
    clear hall
    by_cases hlt : k < L.length
    · obtain ⟨b, off, c, rfl, hA⟩ := H3.out k hlt
      have c2 := hA.c2
      have c3 := hA.c3
      obtain ⟨ac, cc, rfl, hc1, hc2⟩ := hA.zs.slice
      unfold maxLen at hc2
      have HA := Lib.hid hA
      clear hA
      by_cases h110 : k < 80
      · have h110i : (k : Int) < 80 := by omega
        by_cases hs : L[k].s.length ≤ 200
        · have hsz : ¬ (200 : Int) < ((bs L[k].s).size : Int) := by rw [bs_size]; omega
          by_cases hcs : L[k].cs.length ≤ 20
          · have hcz : ¬ (20 : Int) < (L[k].cs.length : Int) := by omega
            go_wp2
            go_round
            case rel =>
              refine ⟨k + 1, by omega, by omega, by go_num, fun j hj hjk => ?_⟩
              by_cases e : j = k
              · subst e; exact ⟨hs, hcs⟩
              · exact Hall.out j hj (by omega)
            case measure => simp [intOf]; omega
          · have hcz : (20 : Int) < (L[k].cs.length : Int) := by omega
            go_wp2
            go_ret
            refine ⟨ret_b11 ?_, rfl⟩
            cases hf : fewD L with
            | false => rfl
            | true => exact absurd (fewD_at hf k hlt).2 hcs
        · have hsz : (200 : Int) < ((bs L[k].s).size : Int) := by rw [bs_size]; omega
          go_wp2
          go_ret
          refine ⟨ret_b11 ?_, rfl⟩
          cases hf : fewD L with
          | false => rfl
          | true => exact absurd (fewD_at hf k hlt).1 hs
      · have h110i : ¬ (k : Int) < 80 := by omega
        go_wp2
        go_ret
        refine ⟨ret_b11 ?_, rfl⟩
        cases hf : fewD L with
        | false => simp; omega
        | true => have := fewD_len hf; omega
    · obtain rfl : k = L.length := by omega
      go_wp2
      go_ret
      refine ⟨ret_b11 ?_, rfl⟩
      cases hf : fewD L with
      | false =>
        by_cases h70 : L.length ≤ 70
        · exfalso
          have : fewD L = true := by
            unfold fewD
            rw [Bool.and_eq_true, List.all_eq_true]
            refine ⟨decide_eq_true h70, fun x hx => ?_⟩
            obtain ⟨j, hj, rfl⟩ := List.getElem_of_mem hx
            simpa using Hall.out j hj hj
          rw [this] at hf
          cases hf
        · simp; omega
      | true =>
        have := fewD_len hf
        simp; omega
end Go.Proofs.Ytnhihadnaiaojaa
