/- The statements' acts on tables, as they lie in the argument's memory; may they be gone through? No condition. -/
import Derived.Test.YtjodkgbpbibfbaaHashS
import Derived.Test.YtjodkgbpbibfbaaRec
namespace Go.Proofs.Ytjodkgbpbibfbaa
open Go.RowKit

/-- An act: what, id, data, block, references, of which id and which data is asked. -/
structure A7 where
  k : Nat
  i : Nat
  s : List UInt8
  b : Int
  q : Int
  j : Nat
  o : List UInt8
  hk : k < 256
  hi : i ≤ 4294967295
  hs : s.length ≤ 9223372036854775807
  hb : -9223372036854775808 ≤ b ∧ b ≤ 9223372036854775807
  hq : -9223372036854775808 ≤ q ∧ q ≤ 9223372036854775807
  hj : j ≤ 4294967295
  ho : o.length ≤ 9223372036854775807
def a7c (x : A7) : List Value := [.int .u8 (x.k : Nat), .int .u32 (x.i : Nat), .string (bs x.s), .int .i64 x.b, .int .i64 x.q, .int .u32 (x.j : Nat), .string (bs x.o)]
theorem a7c_len (x : A7) : (a7c x).length = 7 := rfl
def A7L (w : World) (v : Value) (l : List A7) : Prop := Sl w 7 v l.length (flat a7c l)
section
variable {w w' : World} {v : Value} {l : List A7}
theorem A7L.keepF (h : A7L w v l) (hf : Frm (fun _ => False) w w') : A7L w' v l := Sl.keepF h hf
theorem A7L.slice (h : A7L w v l) : ∃ a cap, v = .slice a l.length cap ∧ l.length ≤ cap ∧ cap ≤ maxLen := Sl.slice h
theorem A7L.elem {a : Option Addr} {cap : Nat} (h : A7L w (.slice a l.length cap) l) (k : Nat) (hk : k < l.length) : ∃ g off, a = some ⟨g, off, none⟩ ∧ g < w.heap.size ∧
    w.cell? ⟨g, off + k * 7, none⟩ = some (.int .u8 (l[k].k : Nat)) ∧ w.cell? ⟨g, off + k * 7 + 1, none⟩ = some (.int .u32 (l[k].i : Nat)) ∧ w.cell? ⟨g, off + k * 7 + 2, none⟩ = some (.string (bs l[k].s)) ∧
    w.cell? ⟨g, off + k * 7 + 3, none⟩ = some (.int .i64 l[k].b) ∧ w.cell? ⟨g, off + k * 7 + 4, none⟩ = some (.int .i64 l[k].q) ∧ w.cell? ⟨g, off + k * 7 + 5, none⟩ = some (.int .u32 (l[k].j : Nat)) ∧ w.cell? ⟨g, off + k * 7 + 6, none⟩ = some (.string (bs l[k].o)) := by
  obtain ⟨g, off, rfl, h0, hc⟩ := Sl.elem a7c a7c_len h k hk (by omega)
  refine ⟨g, off, rfl, h0, hc 0 (by omega), ?_, ?_, ?_, ?_, ?_, ?_⟩ <;> rw [Nat.add_assoc]
  · exact hc 1 (by omega)
  · exact hc 2 (by omega)
  · exact hc 3 (by omega)
  · exact hc 4 (by omega)
  · exact hc 5 (by omega)
  · exact hc 6 (by omega)
end
/-- May these acts be gone through? -/
def few7 (L : List A7) : Bool := decide (L.length ≤ 60) && L.all fun x => decide (x.s.length ≤ 100) && decide (x.o.length ≤ 100)
theorem few7_iff {L : List A7} : few7 L = true ↔ L.length ≤ 60 ∧ ∀ k (hk : k < L.length), L[k].s.length ≤ 100 ∧ L[k].o.length ≤ 100 := by
  unfold few7
  rw [Bool.and_eq_true, List.all_eq_true]
  constructor
  · rintro ⟨h1, h2⟩
    exact ⟨of_decide_eq_true h1, fun k hk => by simpa using h2 L[k] (List.getElem_mem hk)⟩
  · rintro ⟨h1, h2⟩
    refine ⟨decide_eq_true h1, fun x hx => ?_⟩
    obtain ⟨j, hj, rfl⟩ := List.getElem_of_mem hx
    simpa using h2 j hj
theorem few7_no {L : List A7} (h : ¬ (L.length ≤ 60 ∧ ∀ k (hk : k < L.length), L[k].s.length ≤ 100 ∧ L[k].o.length ≤ 100)) : few7 L = false := by
  cases hf : few7 L with
  | false => rfl
  | true => exact absurd (few7_iff.1 hf) h
set_option maxRecDepth 100000 in
set_option maxHeartbeats 2000000 in
theorem few16_any (v : Value) (L : List A7) (w : World) (h : A7L w v L) :
    Calls Try.prog 7 #[v] w fun e w' => e = .returned (.bool (few7 L)) ∧ w = w' := by
  obtain ⟨a, cap, rfl, h1, h2⟩ := h.slice
  unfold maxLen at h2
  obtain ⟨B, hB⟩ : ∃ B, few7 L = B := ⟨_, rfl⟩
  rw [hB]
  have HB := Lib.hid hB
  have H := Lib.hid h
  clear hB h
  go_enter Try.func7, Try.ntmps7
  go_wp2_with fail
  go_loop [3] (fun i => ∃ k : Nat, k ≤ L.length ∧ k ≤ 70 ∧ i = .int .i64 k ∧ ∀ j (h : j < L.length), j < k → L[j].s.length ≤ 100 ∧ L[j].o.length ≤ 100) (fun i => L.length - (intOf i).toNat)
  case atStart => exact ⟨0, Nat.zero_le _, by omega, rfl, fun j _ h => absurd h (by omega)⟩
  case round =>
    obtain ⟨k, hk, hk70, rfl, hall⟩ := hrel
    have Hall := Lib.hid hall
    clear hall
    by_cases hlt : k < L.length
    · have hki : (k : Int) < (L.length : Int) := by omega
      have hk0 : (0 : Int) ≤ (k : Int) := by omega
      by_cases h70 : k < 70
      · have h70i : (k : Int) < 70 := by omega
        obtain ⟨g, off, rfl, _, _, _, c2, _, _, _, c6⟩ := H.out.elem k hlt
        by_cases hs : L[k].s.length ≤ 100
        · have hsz : ¬ (100 : Int) < ((bs L[k].s).size : Int) := by rw [bs_size]; omega
          by_cases ho : L[k].o.length ≤ 100
          · have hoz : ¬ (100 : Int) < ((bs L[k].o).size : Int) := by rw [bs_size]; omega
            have HN := Lib.hid (show ∀ j (h : j < L.length), j < k + 1 → L[j].s.length ≤ 100 ∧ L[j].o.length ≤ 100 from fun j hj hjk => by
              by_cases e : j = k
              · subst e; exact ⟨hs, ho⟩
              · exact Hall.out j hj (by omega))
            clear hs ho
            go_wp2_with fail
            go_round
            case rel => exact ⟨k + 1, by omega, by omega, by go_num, HN.out⟩
            case measure => simp [intOf]; omega
          · have hoz : (100 : Int) < ((bs L[k].o).size : Int) := by rw [bs_size]; omega
            have hb : B = false := by rw [← HB.out]; exact few7_no fun h => ho (h.2 k hlt).2
            have HBF := Lib.hid hb
            clear hs ho hb
            go_wp2_with fail
            go_ret
            exact ⟨by rw [HBF.out]; rfl, rfl⟩
        · have hsz : (100 : Int) < ((bs L[k].s).size : Int) := by rw [bs_size]; omega
          have hb : B = false := by rw [← HB.out]; exact few7_no fun h => hs (h.2 k hlt).1
          have HBF := Lib.hid hb
          clear hs hb
          go_wp2_with fail
          go_ret
          exact ⟨by rw [HBF.out]; rfl, rfl⟩
      · have h70i : ¬ (k : Int) < 70 := by omega
        have hl : ¬ (L.length : Int) ≤ 60 := by omega
        have hb : B = false := by rw [← HB.out]; exact few7_no fun h => by omega
        have HBF := Lib.hid hb
        clear hb
        go_wp2_with fail
        go_ret
        exact ⟨by rw [HBF.out]; rfl, rfl⟩
    · have hki : ¬ (k : Int) < (L.length : Int) := by omega
      obtain rfl : k = L.length := by omega
      by_cases h60 : L.length ≤ 60
      · have hl : (L.length : Int) ≤ 60 := by omega
        have hb : B = true := by rw [← HB.out]; exact few7_iff.2 ⟨h60, fun k hk => Hall.out k hk hk⟩
        have HBF := Lib.hid hb
        clear hb h60
        go_wp2_with fail
        go_ret
        exact ⟨by rw [HBF.out]; rfl, rfl⟩
      · have hl : ¬ (L.length : Int) ≤ 60 := by omega
        have hb : B = false := by rw [← HB.out]; exact few7_no fun h => h60 h.1
        have HBF := Lib.hid hb
        clear hb h60
        go_wp2_with fail
        go_ret
        exact ⟨by rw [HBF.out]; rfl, rfl⟩
end Go.Proofs.Ytjodkgbpbibfbaa
