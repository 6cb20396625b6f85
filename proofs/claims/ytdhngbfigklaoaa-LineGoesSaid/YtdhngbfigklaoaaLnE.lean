/- The statements' acts on lines, as they lie in memory; few, begins, cutBy, works. No condition. -/
import Derived.Test.YtdhngbfigklaoaaLnD
import Derived.Test.YtdhngbfigklaoaaRec
namespace Go.Proofs.Ytdhngbfigklaoaa
open Go.RowKit Go.Shelf

structure A3 where
  k : Nat
  q : Int
  s : List UInt8
  hk : k < 256
  hq : Z64 q
  hs : s.length ≤ 9223372036854775807
def a3c (x : A3) : List Value := [.int .u8 (x.k : Nat), .int .i64 x.q, .string (bs x.s)]
theorem a3c_len (x : A3) : (a3c x).length = 3 := rfl
def A3L (w : World) (v : Value) (l : List A3) : Prop := Sl w 3 v l.length (flat a3c l)
section
variable {w w' : World} {v : Value} {l : List A3}
theorem A3L.keepF (h : A3L w v l) (hf : Frm (fun _ => False) w w') : A3L w' v l := Sl.keepF h hf
theorem A3L.keep {X : Nat → Prop} (h : A3L w v l) (hf : Frm X w w') (hn : ∀ g, g < w.heap.size → X g → False) : A3L w' v l := Sl.keepF h (hf.mono fun k hk hx => hn k hk hx)
theorem A3L.slice (h : A3L w v l) : ∃ a cap, v = .slice a l.length cap ∧ l.length ≤ cap ∧ cap ≤ maxLen := Sl.slice h
theorem A3L.elem {a : Option Addr} {cap : Nat} (h : A3L w (.slice a l.length cap) l) (k : Nat) (hk : k < l.length) : ∃ g off, a = some ⟨g, off, none⟩ ∧ g < w.heap.size ∧ w.cell? ⟨g, off + k * 3, none⟩ = some (.int .u8 (l[k].k : Nat)) ∧ w.cell? ⟨g, off + k * 3 + 1, none⟩ = some (.int .i64 l[k].q) ∧ w.cell? ⟨g, off + k * 3 + 2, none⟩ = some (.string (bs l[k].s)) := by
  obtain ⟨g, off, rfl, h0, hc⟩ := Sl.elem a3c a3c_len h k hk (by omega)
  exact ⟨g, off, rfl, h0, hc 0 (by omega), by rw [Nat.add_assoc]; exact hc 1 (by omega), by rw [Nat.add_assoc]; exact hc 2 (by omega)⟩
end
theorem ret_b12 {x y : Bool} (h : x = y) : Ending.returned (.bool x) = .returned (.bool y) := by rw [h]
/-- May these acts be gone through? -/
def few3 (L : List A3) : Bool := decide (L.length ≤ 60) && L.all fun x => decide (x.s.length ≤ 200)
theorem few3_len {L : List A3} (h : few3 L = true) : L.length ≤ 60 := by
  unfold few3 at h
  rw [Bool.and_eq_true] at h
  exact of_decide_eq_true h.1
theorem few3_at {L : List A3} (h : few3 L = true) (i : Nat) (hi : i < L.length) : L[i].s.length ≤ 200 := by
  unfold few3 at h
  rw [Bool.and_eq_true, List.all_eq_true] at h
  have := h.2 L[i] (List.getElem_mem hi)
  simpa using this
set_option maxRecDepth 100000 in
set_option maxHeartbeats 2000000 in
theorem few12_any (v : Value) (L : List A3) (w : World) (h : A3L w v L) :
    Calls Try.prog 7 #[v] w fun e w' => e = .returned (.bool (few3 L)) ∧ w = w' := by
  obtain ⟨a, cap, rfl, h1, h2⟩ := h.slice
  have H3 := Lib.hid h
  clear h
  unfold maxLen at h2
  go_enter Try.func7, Try.ntmps7
  go_wp2
  go_loop [3] (fun i => ∃ k : Nat, k ≤ L.length ∧ k ≤ 70 ∧ i = .int .i64 k ∧ ∀ j (h : j < L.length), j < k → L[j].s.length ≤ 200) (fun i => L.length - (intOf i).toNat)
  case atStart => exact ⟨0, Nat.zero_le _, by omega, rfl, fun j _ h => absurd h (by omega)⟩
  case round =>
    obtain ⟨k, hk, hk110, rfl, hall⟩ := hrel
    have Hall := Lib.hid hall
    clear hall
    by_cases hlt : k < L.length
    · obtain ⟨b, off, rfl, _, _, _, c2⟩ := H3.out.elem k hlt
      by_cases h110 : k < 70
      · have h110i : (k : Int) < 70 := by omega
        by_cases hs : L[k].s.length ≤ 200
        · have hsz : ¬ (200 : Int) < ((bs L[k].s).size : Int) := by rw [bs_size]; omega
          go_wp2
          go_round
          case rel =>
            refine ⟨k + 1, by omega, by omega, by go_num, fun j hj hjk => ?_⟩
            by_cases e : j = k
            · subst e; exact hs
            · exact Hall.out j hj (by omega)
          case measure => simp [intOf]; omega
        · have hsz : (200 : Int) < ((bs L[k].s).size : Int) := by rw [bs_size]; omega
          go_wp2
          go_ret
          refine ⟨ret_b12 ?_, rfl⟩
          cases hf : few3 L with
          | false => rfl
          | true => exact absurd (few3_at hf k hlt) hs
      · have h110i : ¬ (k : Int) < 70 := by omega
        go_wp2
        go_ret
        refine ⟨ret_b12 ?_, rfl⟩
        cases hf : few3 L with
        | false => simp; omega
        | true => have := few3_len hf; omega
    · obtain rfl : k = L.length := by omega
      go_wp2
      go_ret
      refine ⟨ret_b12 ?_, rfl⟩
      cases hf : few3 L with
      | false =>
        by_cases h70 : L.length ≤ 60
        · exfalso
          have : few3 L = true := by
            unfold few3
            rw [Bool.and_eq_true, List.all_eq_true]
            refine ⟨decide_eq_true h70, fun x hx => ?_⟩
            obtain ⟨j, hj, rfl⟩ := List.getElem_of_mem hx
            simpa using Hall.out j hj hj
          rw [this] at hf
          cases hf
        · simp; omega
      | true =>
        have := few3_len hf
        simp; omega
theorem bs_ext0 (r : List UInt8) (j : Nat) : (bs r).extract 0 j = bs (r.take j) := by
  apply ByteArray.ext
  apply Array.ext'
  simp [bs]
theorem list_beq3 (a b : List UInt8) : (a == b) = decide (a = b) := by
  rw [Bool.eq_iff_iff]
  simp
theorem ext_eq2 (r s : List UInt8) : (((bs r).extract 0 2).toList == (bs s).toList) = decide (r.take 2 = s) := by
  rw [bs_ext0, bs_toList, bs_toList, list_beq3]
set_option maxRecDepth 100000 in
set_option maxHeartbeats 1000000 in
theorem begins12_any (b f x : Nat) (D : DV) (q : Int) (s : List UInt8) (w : World) (h : DevM w b f x D) (hq : Z64 q) (hbad : D.bad q = false) :
    Calls Try.prog 24 #[.pointer (some ⟨b, 0, none⟩), .int .i64 q, .string (bs s)] w fun e w' => e = .returned (.bool (decide ((D.read q.toNat).take 2 = s))) ∧ Frm (fun _ => False) w w' := by
  have HR := read_any b f x D q w h hq
  rw [hbad] at HR
  have hl := h.ok.rlen q.toNat
  have HR := Lib.hid HR
  obtain ⟨r, hr⟩ : ∃ r, D.read q.toNat = r := ⟨_, rfl⟩
  rw [hr] at HR hl ⊢
  have hls : ((bs r).size : Int) = 64 := by rw [bs_size]; omega
  have hls2 : (bs r).size = 64 := by rw [bs_size]; omega
  clear h hbad hr hq hl
  go_enter Try.func24, Try.ntmps24
  go_wp2_with fail
  refine HR.out.mono ?_
  rintro e w1 ⟨rfl, g1⟩
  go_wp2_with fail
  go_ret
  exact ⟨by rw [ext_eq2]; rfl, g1⟩
end Go.Proofs.Ytdhngbfigklaoaa

